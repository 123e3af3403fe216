/- The law on StepsDo. -/
import Derived.Test.YtfpgobkedfhakaaImplStepsDo
import Derived.Test.YtfpgobkedfhakaaOpenStep
import Derived.Test.YtfpgobkedfhakaaEqTextOut
namespace Go.Proofs.Ytfpgobkedfhakaa.Del
open Go.RowKit Go.Proofs.Ytfpgobkedfhakaa.Mem Go.Proofs.Ytfpgobkedfhakaa.Mark Go.Proofs.Ytfpgobkedfhakaa.Harn Go.Proofs.Ytfpgobkedfhakaa.Rws

theorem okSz_of {l : List Pc} (h : ∀ y ∈ l, okIn y) : ∀ y ∈ l, okSz y := fun y hy => (h y hy).2.2
set_option maxRecDepth 100000 in
set_option maxHeartbeats 2000000 in
theorem stepsDo_law (old : ByteArray) (v : Value) (l : List Pc) (w : World) (ho : old.size ≤ maxLen) (h : Ls w v l) (hn : l.length ≤ maxLen) (hz : ∀ y ∈ l, okIn y) :
    Calls Try.prog 6 #[.string old, v] w fun e w' => e = .returned (.bool true) ∧ Below w.heap.size w w' := by
  have hs := okSz_of hz
  have KZ := hidR (fun W (hW : Ls W v l) => szs_any v l 1048576 W hW hn (by omega) hs)
  have KT : Hid (l.length ≤ 1100000 → ∀ W, Ls W v l → Calls Try.prog 32 #[v] W fun e w' => e = .returned (.slice (some ⟨W.heap.size, 0, none⟩) l.length l.length) ∧ LsAt w' W.heap.size 0 l ∧ Below W.heap.size W w' ∧ W.heap.size < w'.heap.size) := fun h W hW => tos_any v l W hW h
  have KE : Hid (l.length ≤ 1100000 → ∀ v1 v2 W, Ls W v1 l → Ls W v2 l → Calls Try.prog 27 #[v1, v2] W fun e w' => e = .returned (.bool true) ∧ Below W.heap.size W w') := fun h v1 v2 W h1 h2 => eqs_any v1 v2 l W h1 h2 h
  have KS : Hid (∀ u W, Ls W u l → Calls Try.prog 31 #[.string old, u] W fun e w' => e = .returned (textO (doO old l).1 (doO old l).2) ∧ Below W.heap.size W w') := fun u W hW => specSD_any old u l W hW ho hn hs
  have KI : Hid (∀ u W, Ls W u l → Calls Try.prog 33 #[.string old, u] W fun e w' => e = .returned (textO (doO old l).1 (doO old l).2) ∧ Below W.heap.size W w') := fun u W hW => implSD_any old u l W hW ho hn hs
  have HF := hidR h
  generalize (doO old l).1 = t at *
  generalize (doO old l).2 = c at *
  unfold textO at KS KI
  unfold maxLen at ho hn
  clear h hz hs
  by_cases hma : (1048576 : Int) < (old.size : Int)
  · go_enter Try.func6, Try.ntmps6
    go_wp2
    go_ret
    exact ⟨rfl, Below.refl _ _⟩
  · go_enter Try.func6, Try.ntmps6
    go_wp2_with fail
    refine (KZ.out _ HF.out).mono ?_
    rintro e w1 ⟨hb1, hr⟩
    have HB1 := hidR hb1
    have HF1 := hidR (HF.out.below hb1)
    clear hb1 KZ HF
    rcases hr with ⟨r, rfl, h2⟩ | ⟨rfl, h2⟩
    · have KT' := hidR (KT.out (by omega))
      have KE' := hidR (KE.out (by omega))
      clear KT KE h2
      go_wp2_with fail
      refine (KT'.out _ HF1.out).mono ?_
      rintro e w2 ⟨rfl, hl2, hb2, _⟩
      have HL2 := hidR (hl2.ls l.length)
      have HB2 := hidR (bstep HB1.out hb2)
      have HF2 := hidR (HF1.out.below hb2)
      clear hl2 hb2 HB1 HF1
      go_wp2_with fail
      refine (KS.out _ _ HL2.out).mono ?_
      rintro e w3 ⟨rfl, hb3⟩
      have hrow : HasRow (w3.alloc (.cells #[.string t, .int .i64 0, .int .i64 c] 58)) w3.heap.size [.string t, .int .i64 0, .int .i64 c] 58 := Sha.row_new w3 _ _
      have hba : Below w3.heap.size w3 (w3.alloc (.cells #[.string t, .int .i64 0, .int .i64 c] 58)) := (Below.refl _ _).alloc (Nat.le_refl _) _
      have hzz : (w3.alloc (.cells #[.string t, .int .i64 0, .int .i64 c] 58)).heap.size = w3.heap.size + 1 := by simp
      obtain ⟨V3, hV⟩ : ∃ V, V = w3.alloc (.cells #[.string t, .int .i64 0, .int .i64 c] 58) := ⟨_, rfl⟩
      rw [← hV] at hrow hba hzz
      have hX3 := hV.symm
      have HB3 := hidR (bstep (bstep HB2.out hb3) hba)
      have HF3 := hidR ((HF2.out.below hb3).below hba)
      have HR3 := hidR hrow
      have HZ3 : Hid (w3.heap.size < V3.heap.size) := by show _ < _; omega
      clear hV hrow hba hb3 HB2 HF2 HL2 KS hzz
      go_wp2_with fail
      refine (KT'.out _ HF3.out).mono ?_
      rintro e w4 ⟨rfl, hl4, hb4, _⟩
      have HL4 := hidR (hl4.ls l.length)
      have HB4 := hidR (bstep HB3.out hb4)
      have HF4 := hidR (HF3.out.below hb4)
      have HR4 := hidR (Sha.row_below HR3.out hb4 HZ3.out)
      have hs4 := hb4.size
      clear hl4 hb4 HB3 HF3 HR3
      go_wp2_with fail
      refine (KI.out _ _ HL4.out).mono ?_
      rintro e w5 ⟨rfl, hb5⟩
      have hs5 := hb5.size
      have hrow : HasRow (w5.alloc (.cells #[.string t, .int .i64 0, .int .i64 c] 58)) w5.heap.size [.string t, .int .i64 0, .int .i64 c] 58 := Sha.row_new w5 _ _
      have hba : Below w5.heap.size w5 (w5.alloc (.cells #[.string t, .int .i64 0, .int .i64 c] 58)) := (Below.refl _ _).alloc (Nat.le_refl _) _
      obtain ⟨V5, hV⟩ : ∃ V, V = w5.alloc (.cells #[.string t, .int .i64 0, .int .i64 c] 58) := ⟨_, rfl⟩
      rw [← hV] at hrow hba
      have hX5 := hV.symm
      have HB5 := hidR (bstep (bstep HB4.out hb5) hba)
      have HF5 := hidR ((HF4.out.below hb5).below hba)
      have HL5 := hidR ((HL4.out.below hb5).below hba)
      have hq5 := Sha.row_below (Sha.row_below HR4.out hb5 (by have := HZ3.out; omega)) hba (by have := HZ3.out; omega)
      have a0 : V5.cell? ⟨w3.heap.size, 0, none⟩ = some (.string t) := Mem.cell_of_row hq5 0
      have a1 : V5.cell? ⟨w3.heap.size, 1, none⟩ = some (.int .i64 0) := Mem.cell_of_row hq5 1
      have a2 : V5.cell? ⟨w3.heap.size, 2, none⟩ = some (.int .i64 c) := Mem.cell_of_row hq5 2
      have b0 : V5.cell? ⟨w5.heap.size, 0, none⟩ = some (.string t) := Mem.cell_of_row hrow 0
      have b1 : V5.cell? ⟨w5.heap.size, 1, none⟩ = some (.int .i64 0) := Mem.cell_of_row hrow 1
      have b2 : V5.cell? ⟨w5.heap.size, 2, none⟩ = some (.int .i64 c) := Mem.cell_of_row hrow 2
      have KQ := hidR (EqTextOut.eqTextOut_same t 0 c V5)
      clear hV hrow hba hb5 HB4 HF4 HL4 HR4 KI hq5
      go_wp2_with fail
      refine (KQ.out).mono ?_
      rintro e w6 ⟨rfl, hb6⟩
      have HB6 := hidR (bstep HB5.out hb6)
      have HF6 := hidR (HF5.out.below hb6)
      have HL6 := hidR (HL5.out.below hb6)
      clear hb6 HB5 HF5 HL5 KQ a0 a1 a2 b0 b1 b2
      go_wp2_with fail
      refine (KT'.out _ HF6.out).mono ?_
      rintro e w7 ⟨rfl, hl7, hb7, _⟩
      have HB7 := hidR (bstep HB6.out hb7)
      have HL7 := hidR (HL6.out.below hb7)
      have HM7 := hidR (hl7.ls l.length)
      clear hl7 hb7 HB6 HL6 HF6
      go_wp2_with fail
      refine (KE'.out _ _ _ HL7.out HM7.out).mono ?_
      rintro e w8 ⟨rfl, hb8⟩
      have HB8 := hidR (bstep HB7.out hb8)
      clear hb8
      go_wp2
      go_ret
      exact ⟨rfl, HB8.out⟩
    · go_wp2
      go_ret
      exact ⟨rfl, HB1.out⟩
end Go.Proofs.Ytfpgobkedfhakaa.Del
