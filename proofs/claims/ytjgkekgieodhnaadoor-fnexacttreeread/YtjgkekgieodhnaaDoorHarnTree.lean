/- Trees, copied, compared, sized by the laws' own functions. -/
import Derived.Test.YtjgkekgieodhnaaDoorHarnFile2
namespace Go.Proofs.YtjgkekgieodhnaaDoor.Tre
open Go.RowKit Go.Proofs.YtjgkekgieodhnaaDoor.Mem Go.Proofs.YtjgkekgieodhnaaDoor.Mark Go.Proofs.YtjgkekgieodhnaaDoor.Harn

theorem hidH {p : Prop} (h : p) : Hid p := h
theorem FilesAt.lt {W : World} {g o : Nat} {l : List Fl} (h : FilesAt W g o l) (h0 : 0 < l.length) : g < W.heap.size := World.block_lt_of_cell? W _ (h 0 h0).1.1
theorem FilesAt.other {W : World} {g o : Nat} {l : List Fl} (h : FilesAt W g o l) (a : Addr) (v : Value) (hg : g ≠ a.block) : FilesAt (W.setCell a v) g o l := fun j hj => by
  obtain ⟨⟨h1, h2, h3⟩, h4, h5, h6⟩ := h j hj
  have ne : ∀ q, a ≠ (⟨g, q, none⟩ : Addr) := fun q e => hg (by rw [e])
  refine ⟨⟨?_, ?_, ?_⟩, by simpa using h4, by simpa using h5, by simpa using h6⟩
  · rw [World.cell?_setCell_other _ _ _ _ (ne _)]; exact h1
  · rw [World.cell?_setCell_other _ _ _ _ (ne _)]; exact h2
  · rw [World.cell?_setCell_other _ _ _ _ (ne _)]; exact h3
set_option maxHeartbeats 1000000 in
theorem eqTree_any (v u : Value) (l : List Fl) (w : World) (h : Files w v l) (h2 : Files w u l) (hn : l.length ≤ 1100000) :
    Calls Tryd.prog 17 #[.agg #[v], .agg #[u]] w fun e w' => e = .returned (.bool true) ∧ Below w.heap.size w w' := by
  have HC : Hid (∀ W, Files W v l → Files W u l → Calls Tryd.prog 32 #[v, u] W fun e w' => e = .returned (.bool true) ∧ Below W.heap.size W w') := fun W hW hW2 => eqFiles_any v u l W hW hW2 hn
  have HF := hidH h
  have HF2 := hidH h2
  clear h hn h2
  go_enter Tryd.func17, Tryd.ntmps17
  go_wp2_with fail
  refine (HC.out _ (Files.below HF.out (((Below.refl _ _).alloc (Nat.le_refl _) _).alloc (by simp) _)) (Files.below HF2.out (((Below.refl _ _).alloc (Nat.le_refl _) _).alloc (by simp) _))).mono ?_
  rintro e w1 ⟨rfl, hb1⟩
  go_wp2
  go_ret
  exact ⟨rfl, bstep (((Below.refl _ _).alloc (Nat.le_refl _) _).alloc (by simp) _) hb1⟩
end Go.Proofs.YtjgkekgieodhnaaDoor.Tre
