/- What the program's copy of a file answers. -/
import Derived.Test.YtfpgobkedfhakaaHarnTree
import Derived.Test.YtfpgobkedfhakaaJoin
import Derived.Test.YtfpgobkedfhakaaRowLaws
import Derived.Deep.RegionHeld3
import Derived.Deep.RegionWith
namespace Go.Proofs.Ytfpgobkedfhakaa.Tre
open Go.RowKit Go.Proofs.Ytfpgobkedfhakaa.Mem Go.Proofs.Ytfpgobkedfhakaa.Harn Go.Proofs.Ytfpgobkedfhakaa.Mark

theorem joinE (t : ByteArray) (w : World) (h : t.size ≤ 2000000) : Calls Try.prog 63 #[.string ByteArray.empty, .string t] w fun e w' => e = .returned (.string t) ∧ Below w.heap.size w w' := by
  refine (Join.join_any ByteArray.empty t w (by simp) (by omega)).mono ?_
  rintro e w' ⟨rfl, h2⟩
  exact ⟨by simp, h2⟩
def CFx (W : World) (g : Nat) (p : ByteArray) (m : Int) (d : ByteArray) : Prop := HasRow W g [.string p, .int .i64 m, .string d] 36 ∧ HasRow W (g + 1) [.string ByteArray.empty, .int .i64 0, .string ByteArray.empty] 36 ∧ g + 1 < W.heap.size
theorem CFx.below {W W' : World} {g : Nat} {p : ByteArray} {m : Int} {d : ByteArray} (h : CFx W g p m d) (hb : Below W.heap.size W W') : CFx W' g p m d :=
  ⟨Sha.row_below h.1 hb (by have := h.2.2; omega), Sha.row_below h.2.1 hb h.2.2, by have := h.2.2; have := hb.size; omega⟩
theorem CFx.cells {W : World} {g : Nat} {p : ByteArray} {m : Int} {d : ByteArray} (h : CFx W g p m d) : W.cell? ⟨g, 0, none⟩ = some (.string p) ∧ W.cell? ⟨g, 1, none⟩ = some (.int .i64 m) ∧ W.cell? ⟨g, 2, none⟩ = some (.string d) ∧ W.cell? ⟨g + 1, 0, none⟩ = some (.string ByteArray.empty) ∧ W.cell? ⟨g + 1, 1, none⟩ = some (.int .i64 0) ∧ W.cell? ⟨g + 1, 2, none⟩ = some (.string ByteArray.empty) ∧ W.frozen? ⟨g + 1, 0, none⟩ = false ∧ W.frozen? ⟨g + 1, 1, none⟩ = false ∧ W.frozen? ⟨g + 1, 2, none⟩ = false :=
  ⟨Mem.cell_of_row h.1 0, Mem.cell_of_row h.1 1, Mem.cell_of_row h.1 2, Mem.cell_of_row h.2.1 0, Mem.cell_of_row h.2.1 1, Mem.cell_of_row h.2.1 2, Mem.frozen_of_row h.2.1 0, Mem.frozen_of_row h.2.1 1, Mem.frozen_of_row h.2.1 2⟩
theorem first_below {W W' : World} {g : Nat} {p : ByteArray} {m : Int} {d : ByteArray} (h : CFx W g p m d) (hb : Below W.drew.heap.size W.drew W') : CFx W' g p m d := CFx.below (W := W.drew) h hb
set_option maxRecDepth 100000 in
set_option maxHeartbeats 1000000 in
theorem copyFile_any (f : Fl) (w : World) (hp : f.p.size ≤ 1000) (hd : f.d.size ≤ 1000) :
    Calls Try.prog 88 #[f.val] w fun e w' => e = .returned f.val ∧ Below w.heap.size w w' := by
  have HJ1 : Hid (∀ W, Calls Try.prog 63 #[.string { data := #[] }, .string f.p] W fun e w' => e = .returned (.string f.p) ∧ Below W.heap.size W w') := fun W => joinE _ W (by omega)
  have HJ2 : Hid (∀ W, Calls Try.prog 63 #[.string { data := #[] }, .string f.d] W fun e w' => e = .returned (.string f.d) ∧ Below W.heap.size W w') := fun W => joinE _ W (by omega)
  obtain ⟨p, m, d⟩ := f
  unfold Fl.val
  dsimp only at *
  have hX0 : CFx ((w.alloc (.cells #[.string p, .int .i64 m, .string d] 36)).alloc (.cells #[.string { data := #[] }, .int .i64 0, .string { data := #[] }] 36)) w.heap.size p m d :=
    ⟨Sha.row_alloc (Sha.row_new w [.string p, .int .i64 m, .string d] _) _, Sha.row_new_at (w.alloc (.cells #[.string p, .int .i64 m, .string d] 36)) [.string ByteArray.empty, .int .i64 0, .string ByteArray.empty] _ (w.heap.size + 1) (by simp), by simp⟩
  have hB0 : Below w.heap.size w ((w.alloc (.cells #[.string p, .int .i64 m, .string d] 36)).alloc (.cells #[.string { data := #[] }, .int .i64 0, .string { data := #[] }] 36)) := ((Below.refl _ _).alloc (Nat.le_refl _) _).alloc (by simp) _
  clear hp hd
  go_enter Try.func88, Try.ntmps88
  obtain ⟨W2, hW2⟩ : ∃ W2, W2 = (w.alloc (.cells #[.string p, .int .i64 m, .string d] 36)).alloc (.cells #[.string { data := #[] }, .int .i64 0, .string { data := #[] }] 36) := ⟨_, rfl⟩
  go_wp2_with fail
  rw [← hW2] at hX0 hB0 ⊢
  have HX := hidH hX0
  have HB := hidH hB0
  obtain ⟨g0, g1, g2, o0, o1, o2, f0, f1, f2⟩ := hX0.cells
  clear hX0 hB0 hW2
  go_region_with (first | (go_at_call_of 63 (Value.string { data := #[] }); (first | (with_reducible refine (HJ1.out _).mono ?_) | (with_reducible refine (HJ2.out _).mono ?_)); rintro e w1 ⟨rfl, hb1⟩; have HX1 := hidH (first_below HX.out hb1); have HB1 := hidH (HB.out.drew.trans (hb1.mono HB.out.size)); clear HX HB g0 g1 g2 o0 o1 o2 f0 f1 f2 hb1; have HX := HX1; have HB := HB1; clear HX1 HB1; obtain ⟨g0, g1, g2, o0, o1, o2, f0, f1, f2⟩ := CFx.cells HX.out) | (go_at_call_of 63 (Value.string { data := #[] }); (first | (with_reducible refine (HJ1.out _).mono ?_) | (with_reducible refine (HJ2.out _).mono ?_)); rintro e w1 ⟨rfl, hb1⟩; have HX1 := hidH (CFx.below HX.out hb1); have HB1 := hidH (HB.out.trans (hb1.mono HB.out.size)); clear HX HB g0 g1 g2 o0 o1 o2 f0 f1 f2 hb1; have HX := HX1; have HB := HB1; clear HX1 HB1; obtain ⟨g0, g1, g2, o0, o1, o2, f0, f1, f2⟩ := CFx.cells HX.out))
  all_goals go_wp2
  all_goals exact bodyPost_ret (v := .agg #[.string p, .int .i64 m, .string d]) (by simp [results, Try.results88, go_sem, o0, o1, o2]) rfl ⟨rfl, ((HB.out.setCell (p := ⟨w.heap.size + 1, 0, none⟩) (by simp) _).setCell (p := ⟨w.heap.size + 1, 1, none⟩) (by simp) _).setCell (p := ⟨w.heap.size + 1, 2, none⟩) (by simp) _⟩
end Go.Proofs.Ytfpgobkedfhakaa.Tre
