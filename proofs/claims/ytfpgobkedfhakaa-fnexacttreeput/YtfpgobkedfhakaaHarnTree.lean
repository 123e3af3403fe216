/- Trees, copied, compared, sized by the laws' own functions. -/
import Derived.Test.YtfpgobkedfhakaaHarnFile2
namespace Go.Proofs.Ytfpgobkedfhakaa.Tre
open Go.RowKit Go.Proofs.Ytfpgobkedfhakaa.Mem Go.Proofs.Ytfpgobkedfhakaa.Mark Go.Proofs.Ytfpgobkedfhakaa.Harn

theorem hidH {p : Prop} (h : p) : Hid p := h
theorem FilesAt.lt {W : World} {g o : Nat} {l : List Fl} (h : FilesAt W g o l) (h0 : 0 < l.length) : g < W.heap.size := World.block_lt_of_cell? W _ (h 0 h0).1.1
theorem FilesAt.other {W : World} {g o : Nat} {l : List Fl} (h : FilesAt W g o l) (a : Addr) (v : Value) (hg : g ≠ a.block) : FilesAt (W.setCell a v) g o l := fun j hj => by
  obtain ⟨⟨h1, h2, h3⟩, h4, h5, h6⟩ := h j hj
  have ne : ∀ q, a ≠ (⟨g, q, none⟩ : Addr) := fun q e => hg (by rw [e])
  refine ⟨⟨?_, ?_, ?_⟩, by simpa using h4, by simpa using h5, by simpa using h6⟩
  · rw [World.cell?_setCell_other _ _ _ _ (ne _)]; exact h1
  · rw [World.cell?_setCell_other _ _ _ _ (ne _)]; exact h2
  · rw [World.cell?_setCell_other _ _ _ _ (ne _)]; exact h3
theorem szTree_any (v : Value) (l : List Fl) (left : Nat) (w : World) (h : Files w v l) (hn : l.length ≤ maxLen) (hl : left ≤ 1048576) (hs : ∀ y ∈ l, y.p.size ≤ maxLen ∧ y.d.size ≤ maxLen) :
    Calls Try.prog 9 #[.agg #[v], .int .i64 (left : Int)] w fun e w' => Below w.heap.size w w' ∧ ((∃ r : Nat, e = .returned (.int .i64 (r : Int)) ∧ r + l.length + wtF l = left) ∨ (e = .returned (.int .i64 (-1)) ∧ left < l.length + wtF l)) := by
  have HC : Hid (∀ W, Files W v l → Calls Try.prog 41 #[v, .int .i64 (left : Int)] W fun e w' => Below W.heap.size W w' ∧ ((∃ r : Nat, e = .returned (.int .i64 (r : Int)) ∧ r + l.length + wtF l = left) ∨ (e = .returned (.int .i64 (-1)) ∧ left < l.length + wtF l))) := fun W hW => szFiles_any v l left W hW hn hl hs
  have HF := hidH h
  have hl0 := hl
  clear h hn hs hl0
  go_enter Try.func9, Try.ntmps9
  go_wp2_with fail
  refine (HC.out _ (Files.below HF.out ((Below.refl _ _).alloc (Nat.le_refl _) _))).mono ?_
  rintro e w1 ⟨hb1, hr⟩
  have HB := hidH (bstep ((Below.refl w.heap.size w).alloc (Nat.le_refl _) _) hb1)
  clear hb1
  rcases hr with ⟨r, rfl, h2⟩ | ⟨rfl, h2⟩
  · go_wp2
    go_ret
    exact ⟨HB.out, .inl ⟨r, rfl, h2⟩⟩
  · go_wp2
    go_ret
    exact ⟨HB.out, .inr ⟨rfl, h2⟩⟩
theorem toTree_any (v : Value) (l : List Fl) (w : World) (h : Files w v l) (hn : l.length ≤ 1100000) :
    Calls Try.prog 12 #[.agg #[v]] w fun e w' => ∃ g, e = .returned (.agg #[.slice (some ⟨g, 0, none⟩) l.length l.length]) ∧ FilesAt w' g 0 l ∧ w.heap.size ≤ g ∧ g < w'.heap.size ∧ Below w.heap.size w w' := by
  have HC : Hid (∀ W, Files W v l → Calls Try.prog 46 #[v] W fun e w' => e = .returned (.slice (some ⟨W.heap.size, 0, none⟩) l.length l.length) ∧ FilesAt w' W.heap.size 0 l ∧ Below W.heap.size W w' ∧ W.heap.size < w'.heap.size) := fun W hW => toFiles_any v l W hW hn
  have HF := hidH h
  clear h hn
  go_enter Try.func12, Try.ntmps12
  go_wp2_with fail
  refine (HC.out _ (Files.below HF.out ((((Below.refl _ _).alloc (Nat.le_refl _) _).alloc (by simp) _).alloc (by simp; omega) _))).mono ?_
  rintro e w1 ⟨rfl, hr, hb1, hz1⟩
  obtain ⟨hcc, hff⟩ := bcell hb1
  simp at hcc hff hz1
  have HR := hidH hr
  have HB := hidH (Below.trans ((((Below.refl w.heap.size w).alloc (Nat.le_refl _) (.cells #[v] 24)).alloc (by simp) (.cells #[.slice none 0 0] 31)).alloc (by simp; omega) (.cells #[.slice none 0 0] 31)) (hb1.mono (by simp; omega)))
  clear hb1 hr
  go_wp2
  exact bodyPost_ret (v := .agg #[.slice (some ⟨w.heap.size + 1 + 1 + 1, 0, none⟩) l.length l.length]) (by simp [results, Try.results12, go_sem, hcc] <;> omega) rfl ⟨_, rfl, by
    have := HR.out
    simp at this
    exact (this.other ⟨w.heap.size + 1 + 1, 0, none⟩ _ (by simp)).other ⟨w.heap.size + 1, 0, none⟩ _ (by simp <;> omega), by omega, by simp; omega, ((HB.out.setCell (p := ⟨w.heap.size + 1 + 1, 0, none⟩) (by simp; omega) _).setCell (p := ⟨w.heap.size + 1, 0, none⟩) (by simp) _)⟩
set_option maxHeartbeats 1000000 in
theorem eqTree_any (v u : Value) (l : List Fl) (w : World) (h : Files w v l) (h2 : Files w u l) (hn : l.length ≤ 1100000) :
    Calls Try.prog 16 #[.agg #[v], .agg #[u]] w fun e w' => e = .returned (.bool true) ∧ Below w.heap.size w w' := by
  have HC : Hid (∀ W, Files W v l → Files W u l → Calls Try.prog 52 #[v, u] W fun e w' => e = .returned (.bool true) ∧ Below W.heap.size W w') := fun W hW hW2 => eqFiles_any v u l W hW hW2 hn
  have HF := hidH h
  have HF2 := hidH h2
  clear h hn h2
  go_enter Try.func16, Try.ntmps16
  go_wp2_with fail
  refine (HC.out _ (Files.below HF.out (((Below.refl _ _).alloc (Nat.le_refl _) _).alloc (by simp) _)) (Files.below HF2.out (((Below.refl _ _).alloc (Nat.le_refl _) _).alloc (by simp) _))).mono ?_
  rintro e w1 ⟨rfl, hb1⟩
  go_wp2
  go_ret
  exact ⟨rfl, bstep (((Below.refl _ _).alloc (Nat.le_refl _) _).alloc (by simp) _) hb1⟩
end Go.Proofs.Ytfpgobkedfhakaa.Tre
