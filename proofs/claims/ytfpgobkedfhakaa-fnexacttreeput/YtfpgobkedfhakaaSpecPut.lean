/- What the model's TreePut answers. -/
import Derived.Test.YtfpgobkedfhakaaPutTree
import Derived.Test.YtfpgobkedfhakaaOwnFiles
import Derived.Test.YtfpgobkedfhakaaSpecTree
namespace Go.Proofs.Ytfpgobkedfhakaa.Tre
open Go.RowKit Go.Proofs.Ytfpgobkedfhakaa.Mem Go.Proofs.Ytfpgobkedfhakaa.Gf Go.Proofs.Ytfpgobkedfhakaa.Harn Go.Proofs.Ytfpgobkedfhakaa.Mark

theorem ill_any (c : Int) (w : World) : Calls Try.prog 44 #[.int .i64 c] w fun e w' => e = .returned (.agg #[.slice none 0 0, .int .i64 c]) ∧ Below w.heap.size w w' := by
  go_enter Try.func44, Try.ntmps44
  go_wp2
  exact bodyPost_ret (v := .agg #[.slice none 0 0, .int .i64 c]) (by simp [results, Try.results44, go_sem]) rfl ⟨rfl, (Below.refl _ _).alloc (Nat.le_refl _) _⟩
/-- what stands while a file is put -/
structure PS (w W : World) (g : Nat) (l : List Fl) (f : Fl) : Prop where
  bel : Below w.heap.size w W
  size : w.heap.size + 3 ≤ W.heap.size
  tree : HasRow W w.heap.size [.slice (some ⟨g, 0, none⟩) l.length l.length] 31
  file : HasRow W (w.heap.size + 1) [.string f.p, .int .i64 f.m, .string f.d] 36
  out : HasRow W (w.heap.size + 2) [.slice none 0 0, .int .i64 0] 33
  files : FilesAt W g 0 l
theorem PS.below {w W W' : World} {g : Nat} {l : List Fl} {f : Fl} (h : PS w W g l f) (hb : Below W.heap.size W W') : PS w W' g l f := by
  have := h.size
  have := hb.size
  exact ⟨h.bel.trans (hb.mono (by omega)), by omega, Sha.row_below h.tree hb (by omega), Sha.row_below h.file hb (by omega), Sha.row_below h.out hb (by omega), FilesAt.below h.files hb⟩
theorem PS.grown {w W W' : World} {g : Nat} {l : List Fl} {f : Fl} {r : Option Nat} (h : PS w W g l f) (h0 : FilesAt w g 0 l) (hg : W.grownBy W' r) (hr : ∀ k, r = some k → w.heap.size + 3 ≤ k) : PS w W' g l f := by
  have hz := h.size
  have hz2 := hg.size
  have hb := h.bel.grown hg (by omega) (fun j hj => by have := hr j hj; omega)
  have row : ∀ {k : Nat} {cs : List Value} {e : TypeId}, k < w.heap.size + 3 → HasRow W k cs e → HasRow W' k cs e := fun {k cs e} hk hrow => by
    unfold HasRow at *
    rw [hg.block k (by omega) (fun e => by have := hr k e.symm; omega), hrow]
  exact ⟨hb, by omega, row (by omega) h.tree, row (by omega) h.file, row (by omega) h.out, FilesAt.below h0 hb⟩
/-- a part of a list of files, as it lies -/
theorem take_files {W : World} {g : Nat} {l : List Fl} (h : FilesAt W g 0 l) (k : Nat) : ∀ j (hj : j < (l.take k).length), W.cell? ⟨g, 0 + j * 3, none⟩ = some (.string (l.take k)[j].p) ∧ W.cell? ⟨g, 0 + j * 3 + 1, none⟩ = some (.int .i64 (l.take k)[j].m) ∧ W.cell? ⟨g, 0 + j * 3 + 2, none⟩ = some (.string (l.take k)[j].d) := fun j hj => by
  have := (h j (by simp at hj; omega)).1
  simpa using this
theorem drop_files {W : World} {g : Nat} {l : List Fl} (h : FilesAt W g 0 l) (k : Nat) : ∀ j (hj : j < (l.drop k).length), W.cell? ⟨g, k * 3 + j * 3, none⟩ = some (.string (l.drop k)[j].p) ∧ W.cell? ⟨g, k * 3 + j * 3 + 1, none⟩ = some (.int .i64 (l.drop k)[j].m) ∧ W.cell? ⟨g, k * 3 + j * 3 + 2, none⟩ = some (.string (l.drop k)[j].d) := fun j hj => by
  have := (h (k + j) (by simp at hj; omega)).1
  rw [show 0 + (k + j) * 3 = k * 3 + j * 3 by omega] at this
  simpa using this
theorem ps_start (w : World) (g : Nat) (l : List Fl) (f : Fl) (h : FilesAt w g 0 l) : PS w (((w.alloc (.cells #[.slice (some ⟨g, 0, none⟩) l.length l.length] 31)).alloc (.cells #[.string f.p, .int .i64 f.m, .string f.d] 36)).alloc (.cells #[.slice none 0 0, .int .i64 0] 33)) g l f := by
  have hb : Below w.heap.size w (((w.alloc (.cells #[.slice (some ⟨g, 0, none⟩) l.length l.length] 31)).alloc (.cells #[.string f.p, .int .i64 f.m, .string f.d] 36)).alloc (.cells #[.slice none 0 0, .int .i64 0] 33)) := (((Below.refl w.heap.size w).alloc (Nat.le_refl _) _).alloc (by simp) _).alloc (by simp; omega) _
  exact ⟨hb, by simp, Sha.row_alloc (Sha.row_alloc (Sha.row_new w [.slice (some ⟨g, 0, none⟩) l.length l.length] _) _) _, Sha.row_alloc (Sha.row_new_at (w.alloc (.cells #[.slice (some ⟨g, 0, none⟩) l.length l.length] 31)) [.string f.p, .int .i64 f.m, .string f.d] _ (w.heap.size + 1) (by simp)) _, Sha.row_new_at ((w.alloc (.cells #[.slice (some ⟨g, 0, none⟩) l.length l.length] 31)).alloc (.cells #[.string f.p, .int .i64 f.m, .string f.d] 36)) [.slice none 0 0, .int .i64 0] _ (w.heap.size + 2) (by simp), FilesAt.below h hb⟩
end Go.Proofs.Ytfpgobkedfhakaa.Tre
