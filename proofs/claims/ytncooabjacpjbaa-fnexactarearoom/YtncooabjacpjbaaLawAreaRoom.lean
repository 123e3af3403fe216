/- The law on AreaRoom. -/
import Derived.Test.YtncooabjacpjbaaAreaRoom
namespace Go.Proofs.Ytncooabjacpjbaa.Area
open Go.RowKit Go.Proofs.Ytncooabjacpjbaa.Mem Go.Proofs.Ytncooabjacpjbaa.Harn Go.Proofs.Ytncooabjacpjbaa.DiskP Go.Proofs.Ytncooabjacpjbaa.Disk Go.Proofs.Ytncooabjacpjbaa.Mark

set_option maxRecDepth 100000 in
set_option maxHeartbeats 2000000 in
theorem room_law (vs vp : Value) (ls : List ByteArray) (lp : List (Int × ByteArray)) (w : World) (h : Disk.Came w vs vp ls lp) :
    Calls Try.prog 3 #[.agg #[vs, vp]] w fun e w' => e = .returned (.bool true) ∧ Below w.heap.size w w' := by
  have hb0 : Below w.heap.size w (w.alloc (.cells #[vs, vp] 25)) := (Below.refl _ _).alloc (Nat.le_refl _) _
  have HB0 : Hid (Below w.heap.size w (w.alloc (.cells #[vs, vp] 25))) := hb0
  have HC0 : Hid (Disk.Came (w.alloc (.cells #[vs, vp] 25)) vs vp ls lp) := h.below hb0
  have HC : Hid (Disk.Came w vs vp ls lp) := h
  clear hb0 h
  by_cases hbig : 1048576 < wtD ls lp
  · go_enter Try.func3, Try.ntmps3
    go_wp2_with (go_at_call 5; refine (HC0.out.sz 1048576 (by omega)).mono ?_; rintro e w1 ⟨hb1, ⟨r, rfl, hr⟩ | ⟨rfl, _⟩⟩; (exfalso; omega))
    go_ret
    exact ⟨rfl, bT HB0.out hb1⟩
  · have HF : Hid (Fits ls lp) := HC.out.fits (by omega)
    go_enter Try.func3, Try.ntmps3
    have HTO : Hid (∀ W, Below w.heap.size w W → Calls Try.prog 7 #[.agg #[vs, vp]] W fun e w' => ∃ us up, e = .returned (.agg #[us, up]) ∧ Own w' W.heap.size w'.heap.size us up ls lp ∧ Below W.heap.size W w' ∧ W.heap.size < w'.heap.size) := fun W hW => toDisk_own vs vp ls lp W (Strs.below HC.out.s hW) (Pends.below HC.out.p hW) HF.out.n HF.out.m
    have HSP : Hid (∀ W us up, Strs W us ls → Pends W up lp → Calls Try.prog 6 #[.agg #[us, up]] W fun e w' => e = .returned (.int .i64 (roomN ls lp : Nat)) ∧ Below W.heap.size W w') := fun W us up a b => specRoom_any us up ls lp W a b HF.out
    have HIM : Hid (∀ W us up, Strs W us ls → Pends W up lp → Calls Try.prog 8 #[.agg #[us, up]] W fun e w' => e = .returned (.int .i64 (roomN ls lp : Nat)) ∧ Below W.heap.size W w') := fun W us up a b => implRoom_any us up ls lp W a b HF.out
    have HBX : Hid (Box25 (w.alloc (.cells #[vs, vp] 25)) w.heap.size vs vp) := Sha.row_new w [vs, vp] 25
    generalize roomN ls lp = rb at *
    go_wp2_with (go_at_call 5; refine (HC0.out.sz 1048576 (by omega)).mono ?_; rintro e w1 ⟨hb1, ⟨r, rfl, hr⟩ | ⟨rfl, hr⟩⟩; rotate_left; (exfalso; omega); have B1 := Box25.below HBX.out hb1 (by simp); obtain ⟨c0, c1, _⟩ := B1.cells; have hz1 := hb1.size; simp at hz1; have HB1 : Hid (Below w.heap.size w w1) := bT HB0.out hb1; have HX1 : Hid _ := B1; clear hb1 B1 hr)
    refine (HTO.out _ HB1.out).mono ?_
    rintro e w2 ⟨us, up, rfl, ho2, hb2, hz2⟩
    obtain ⟨va, ca, vb, cb, rfl, rfl⟩ := ho2.shape
    have HO2 : Hid _ := ho2
    have HB2 : Hid (Below w.heap.size w w2) := bT HB1.out hb2
    have B2 := Box25.below HX1.out hb2 (by omega)
    have HX2 : Hid _ := B2
    clear ho2 hb2 c0 c1 B2
    go_wp2_with fail
    refine (HSP.out _ _ _ (Own.strs HO2.out) (Own.pends HO2.out)).mono ?_
    rintro e w3 ⟨rfl, hb3⟩
    have B3 := Box25.below HX2.out hb3 (by omega)
    obtain ⟨c0, c1, _⟩ := B3.cells
    have HB3 : Hid (Below w.heap.size w w3) := bT HB2.out hb3
    have HX3 : Hid _ := B3
    have hz3 := hb3.size
    clear B3 hb3
    go_wp2_with fail
    refine (HTO.out _ HB3.out).mono ?_
    rintro e w4 ⟨us, up, rfl, ho4, hb4, hz4⟩
    obtain ⟨va4, ca4, vb4, cb4, rfl, rfl⟩ := ho4.shape
    have HO4 : Hid (Own (w4.alloc (.cells #[.slice va4 ls.length ca4, .slice vb4 lp.length cb4] 30)) w3.heap.size w4.heap.size (.slice va4 ls.length ca4) (.slice vb4 lp.length cb4) ls lp) := ho4.below ((Below.refl _ _).alloc (Nat.le_refl _) _)
    have HB4 : Hid (Below w.heap.size w (w4.alloc (.cells #[.slice va4 ls.length ca4, .slice vb4 lp.length cb4] 30))) := bA (bT HB3.out hb4) _
    have B4 := Sha.row_alloc (Box25.below HX3.out hb4 (by omega)) (.cells #[.slice va4 ls.length ca4, .slice vb4 lp.length cb4] 30)
    have HX4 : Hid (Box25 (w4.alloc (.cells #[.slice va4 ls.length ca4, .slice vb4 lp.length cb4] 30)) w.heap.size vs vp) := B4
    clear ho4 hb4 c0 c1 B4
    go_wp2_with fail
    refine (HIM.out _ _ _ (Own.strs HO4.out) (Own.pends HO4.out)).mono ?_
    rintro e w5 ⟨rfl, hb5⟩
    have B5 := Box25.below HX4.out hb5 (by simp; omega)
    obtain ⟨c0, c1, _⟩ := B5.cells
    have R5 : HasRow w5 w4.heap.size [.slice va4 ls.length ca4, .slice vb4 lp.length cb4] 30 := Sha.row_below (Sha.row_new w4 [.slice va4 ls.length ca4, .slice vb4 lp.length cb4] 30) hb5 (by simp)
    have e0 : w5.cell? ⟨w4.heap.size, 0, none⟩ = some (.slice va4 ls.length ca4) := Mem.cell_of_row R5 0
    have e1 : w5.cell? ⟨w4.heap.size, 1, none⟩ = some (.slice vb4 lp.length cb4) := Mem.cell_of_row R5 1
    have HB5 : Hid (Below w.heap.size w w5) := bT HB4.out hb5
    have HO5 : Hid (Own w5 w3.heap.size w4.heap.size (.slice va4 ls.length ca4) (.slice vb4 lp.length cb4) ls lp) := Own.below HO4.out hb5
    have hz5 := hb5.size
    simp at hz5
    have n1 : ¬ w4.heap.size = w.heap.size := by omega
    have n2 : ¬ w.heap.size = w4.heap.size := by omega
    clear B5 R5 hb5
    go_wp2_with fail
    go_region_held3 (fun w' => w'.cell? ⟨w4.heap.size, 0, none⟩ = some (.slice va4 ls.length ca4) ∧ w'.cell? ⟨w4.heap.size, 1, none⟩ = some (.slice vb4 lp.length cb4) ∧ w'.cell? ⟨w.heap.size, 0, none⟩ = some vs ∧ w'.cell? ⟨w.heap.size, 1, none⟩ = some vp)
      (first
        | go_keep
        | (go_split_ands; refine ⟨?_, ?_, ?_, ?_⟩ <;> (rw [hb7.cell (by simp; omega)]; first | exact k0 | exact k1 | exact k2 | exact k3))
        | (go_split_ands; refine ⟨?_, ?_, ?_, ?_⟩ <;> (rw [hb6.cell (by simp; omega)]; simp [*])))
      (first
        | (go_at_call 7; refine (HTO.out _ (by repeat' (first | exact HB5.out | apply bD))).mono ?_; rintro e w6 ⟨us, up, rfl, ho6, hb6, hz6⟩; obtain ⟨va6, ca6, vb6, cb6, rfl, rfl⟩ := ho6.shape; have HO6 : Hid _ := ho6; have hb56 : Below w5.heap.size w5 w6 := (by refine bT ?_ hb6; repeat' (first | exact Below.refl _ _ | apply bD)); have HO56 : Hid _ := Own.below HO5.out hb56; have k0 := (hb56.cell (p := ⟨w4.heap.size, 0, none⟩) (by simp; omega)).trans e0; have k1 := (hb56.cell (p := ⟨w4.heap.size, 1, none⟩) (by simp; omega)).trans e1; have k2 := (hb56.cell (p := ⟨w.heap.size, 0, none⟩) (by simp; omega)).trans c0; have k3 := (hb56.cell (p := ⟨w.heap.size, 1, none⟩) (by simp; omega)).trans c1; have HB56 : Hid (Below w.heap.size w w6) := bT HB5.out hb56; have hz56 := hb56.size; clear ho6)
        | (go_at_call 9; refine (eqDisk_any _ _ _ _ ls lp _ (Own.strs HO56.out) (Own.pends HO56.out) (Own.strs HO6.out) (Own.pends HO6.out) HF.out.n HF.out.m).mono ?_; rintro e w7 ⟨rfl, hb7⟩))
    all_goals go_wp2
    all_goals go_ret
    all_goals exact ⟨rfl, bT HB56.out hb7⟩
end Go.Proofs.Ytncooabjacpjbaa.Area
