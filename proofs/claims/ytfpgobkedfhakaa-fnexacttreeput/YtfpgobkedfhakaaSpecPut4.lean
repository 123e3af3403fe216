/- What the model's TreePut answers, whole. -/
import Derived.Test.YtfpgobkedfhakaaSpecPut3
namespace Go.Proofs.Ytfpgobkedfhakaa.Tre
open Go.RowKit Go.Proofs.Ytfpgobkedfhakaa.Mem Go.Proofs.Ytfpgobkedfhakaa.Gf Go.Proofs.Ytfpgobkedfhakaa.Harn Go.Proofs.Ytfpgobkedfhakaa.Mark

/-- what TreePut tells -/
noncomputable def putTO (l : List Fl) (f : Fl) : List Fl × Int := if treeR l && fileR f then putO l f else ([], 1)
set_option maxRecDepth 100000 in
set_option maxHeartbeats 2000000 in
theorem specTP_any (g : Nat) (l : List Fl) (f : Fl) (w : World) (h : FilesAt w g 0 l) (hn : l.length ≤ maxLen) (hs : ∀ y ∈ l, y.p.size ≤ maxLen ∧ y.d.size ≤ maxLen) (hd : f.d.size ≤ maxLen) :
    Calls Try.prog 11 #[.agg #[.slice (some ⟨g, 0, none⟩) l.length l.length], f.val] w fun e w' => ∃ v, e = .returned (.agg #[v, .int .i64 (putTO l f).2]) ∧ Mk w' v (putTO l f).1 ∧ (∀ k, v.ownBlock = some k → w.heap.size ≤ k) ∧ Below w.heap.size w w' := by
  have KR := hidT (fun W (hW : FilesAt W g 0 l) => specTR_any _ l W (hW.files l.length) hn hs)
  have KF := hidT (fun W => specFile_any f W hd)
  have KP : Hid (treeR l = true → ∀ W, FilesAt W g 0 l → Calls Try.prog 45 #[.agg #[.slice (some ⟨g, 0, none⟩) l.length l.length], f.val] W fun e w' => ∃ v, e = .returned (.agg #[v, .int .i64 (putO l f).2]) ∧ Mk w' v (putO l f).1 ∧ (∀ k, v.ownBlock = some k → W.heap.size ≤ k) ∧ Below W.heap.size W w') := fun hr W hW => specPut_any g l f W hW (treeR_le hr)
  have KI := hidT (fun W => ill_any 1 W)
  have HF := hidT h
  have HO : Hid (putTO l f = if treeR l && fileR f then putO l f else ([], 1)) := rfl
  generalize putTO l f = O at *
  generalize putO l f = P at *
  generalize treeR l = z1 at *
  generalize fileR f = z2 at *
  obtain ⟨fp, fm, fd⟩ := f
  unfold Fl.val at *
  dsimp only at *
  clear h hn hs hd
  obtain ⟨W0, hW0⟩ : ∃ W0, W0 = ((w.alloc (.cells #[.slice (some ⟨g, 0, none⟩) l.length l.length] 31)).alloc (.cells #[.string fp, .int .i64 fm, .string fd] 36)).alloc (.cells #[.slice none 0 0, .int .i64 0] 33) := ⟨_, rfl⟩
  have hp : PS w W0 g l ⟨fp, fm, fd⟩ := by rw [hW0]; exact ps_start w g l ⟨fp, fm, fd⟩ HF.out
  have hX0 := hW0.symm
  have HP0 := hidT hp
  clear hW0 hp
  have t0 : W0.cell? ⟨w.heap.size, 0, none⟩ = some (.slice (some ⟨g, 0, none⟩) l.length l.length) := Mem.cell_of_row HP0.out.tree 0
  have f0 : W0.cell? ⟨w.heap.size + 1, 0, none⟩ = some (.string fp) := Mem.cell_of_row HP0.out.file 0
  have f1 : W0.cell? ⟨w.heap.size + 1, 1, none⟩ = some (.int .i64 fm) := Mem.cell_of_row HP0.out.file 1
  have f2 : W0.cell? ⟨w.heap.size + 1, 2, none⟩ = some (.string fd) := Mem.cell_of_row HP0.out.file 2
  cases z1
  · go_enter Try.func11, Try.ntmps11
    go_wp2_with fail
    refine (KR.out _ HP0.out.files).mono ?_
    rintro e w1 ⟨rfl, hb1⟩
    have HP1 := hidT (HP0.out.below hb1)
    clear hb1 t0 f0 f1 f2
    have HOO : Hid (O = ([], 1)) := by rw [HO.out]; rfl
    go_wp2_with fail
    refine (KI.out _).mono ?_
    rintro e w9 ⟨rfl, hb9⟩
    have hp9 := HP1.out.below hb9
    have o0 : w9.cell? ⟨w.heap.size + 2, 0, none⟩ = some (.slice none 0 0) := Mem.cell_of_row hp9.out 0
    have o1 : w9.cell? ⟨w.heap.size + 2, 1, none⟩ = some (.int .i64 0) := Mem.cell_of_row hp9.out 1
    have of0 := Mem.frozen_of_row hp9.out 0
    have of1 := Mem.frozen_of_row hp9.out 1
    have HB9 := hidT hp9.bel
    clear hb9 hp9
    go_wp2
    exact bodyPost_ret (v := .agg #[.slice none 0 0, .int .i64 1]) (by simp [results, Try.results11, go_sem, o0, o1]) rfl ⟨_, by rw [HOO.out], by rw [HOO.out]; exact .inr ⟨rfl, rfl⟩, (fun k e => by cases e), (HB9.out.setCell (p := ⟨w.heap.size + 2, 0, none⟩) (by simp) _).setCell (p := ⟨w.heap.size + 2, 1, none⟩) (by simp) _⟩
  · cases z2
    · go_enter Try.func11, Try.ntmps11
      go_wp2_with fail
      refine (KR.out _ HP0.out.files).mono ?_
      rintro e w1 ⟨rfl, hb1⟩
      have HP1 := hidT (HP0.out.below hb1)
      clear hb1 t0 f0 f1 f2
      have HOO : Hid (O = ([], 1)) := by rw [HO.out]; rfl
      have f0 : w1.cell? ⟨w.heap.size + 1, 0, none⟩ = some (.string fp) := Mem.cell_of_row HP1.out.file 0
      have f1 : w1.cell? ⟨w.heap.size + 1, 1, none⟩ = some (.int .i64 fm) := Mem.cell_of_row HP1.out.file 1
      have f2 : w1.cell? ⟨w.heap.size + 1, 2, none⟩ = some (.string fd) := Mem.cell_of_row HP1.out.file 2
      go_wp2_with fail
      refine (KF.out _).mono ?_
      rintro e w2 ⟨rfl, hb2⟩
      have HP2 := hidT (HP1.out.below hb2)
      clear hb2 f0 f1 f2
      go_wp2_with fail
      refine (KI.out _).mono ?_
      rintro e w9 ⟨rfl, hb9⟩
      have hp9 := HP2.out.below hb9
      have o0 : w9.cell? ⟨w.heap.size + 2, 0, none⟩ = some (.slice none 0 0) := Mem.cell_of_row hp9.out 0
      have o1 : w9.cell? ⟨w.heap.size + 2, 1, none⟩ = some (.int .i64 0) := Mem.cell_of_row hp9.out 1
      have of0 := Mem.frozen_of_row hp9.out 0
      have of1 := Mem.frozen_of_row hp9.out 1
      have HB9 := hidT hp9.bel
      clear hb9 hp9
      go_wp2
      exact bodyPost_ret (v := .agg #[.slice none 0 0, .int .i64 1]) (by simp [results, Try.results11, go_sem, o0, o1]) rfl ⟨_, by rw [HOO.out], by rw [HOO.out]; exact .inr ⟨rfl, rfl⟩, (fun k e => by cases e), (HB9.out.setCell (p := ⟨w.heap.size + 2, 0, none⟩) (by simp) _).setCell (p := ⟨w.heap.size + 2, 1, none⟩) (by simp) _⟩
    · have KP' := hidT (KP.out rfl)
      have HOO : Hid (O = P) := by rw [HO.out]; rfl
      clear KP HO KI
      go_enter Try.func11, Try.ntmps11
      go_wp2_with fail
      refine (KR.out _ HP0.out.files).mono ?_
      rintro e w1 ⟨rfl, hb1⟩
      have HP1 := hidT (HP0.out.below hb1)
      clear hb1 t0 f0 f1 f2
      have f0 : w1.cell? ⟨w.heap.size + 1, 0, none⟩ = some (.string fp) := Mem.cell_of_row HP1.out.file 0
      have f1 : w1.cell? ⟨w.heap.size + 1, 1, none⟩ = some (.int .i64 fm) := Mem.cell_of_row HP1.out.file 1
      have f2 : w1.cell? ⟨w.heap.size + 1, 2, none⟩ = some (.string fd) := Mem.cell_of_row HP1.out.file 2
      go_wp2_with fail
      refine (KF.out _).mono ?_
      rintro e w2 ⟨rfl, hb2⟩
      have HP2 := hidT (HP1.out.below hb2)
      clear hb2 f0 f1 f2
      have f0 : w2.cell? ⟨w.heap.size + 1, 0, none⟩ = some (.string fp) := Mem.cell_of_row HP2.out.file 0
      have f1 : w2.cell? ⟨w.heap.size + 1, 1, none⟩ = some (.int .i64 fm) := Mem.cell_of_row HP2.out.file 1
      have f2 : w2.cell? ⟨w.heap.size + 1, 2, none⟩ = some (.string fd) := Mem.cell_of_row HP2.out.file 2
      have t0 : w2.cell? ⟨w.heap.size, 0, none⟩ = some (.slice (some ⟨g, 0, none⟩) l.length l.length) := Mem.cell_of_row HP2.out.tree 0
      go_wp2_with fail
      refine (KP'.out _ HP2.out.files).mono ?_
      rintro e w9 ⟨v, rfl, hm9, hk9, hb9⟩
      have hp9 := HP2.out.below hb9
      have o0 : w9.cell? ⟨w.heap.size + 2, 0, none⟩ = some (.slice none 0 0) := Mem.cell_of_row hp9.out 0
      have o1 : w9.cell? ⟨w.heap.size + 2, 1, none⟩ = some (.int .i64 0) := Mem.cell_of_row hp9.out 1
      have of0 := Mem.frozen_of_row hp9.out 0
      have of1 := Mem.frozen_of_row hp9.out 1
      have HB9 := hidT hp9.bel
      have hz2 := HP2.out.size
      obtain ⟨a, n, c, rfl⟩ : ∃ a n c, v = .slice a n c := by
        rcases hm9 with ⟨g, c, h, _⟩ | ⟨h, _⟩
        · exact ⟨_, _, _, h⟩
        · exact ⟨_, _, _, h⟩
      have HMM : Hid (Mk ((w9.setCell ⟨w.heap.size + 2, 0, none⟩ (.slice a n c)).setCell ⟨w.heap.size + 2, 1, none⟩ (.int .i64 P.2)) (.slice a n c) P.1) := by
        rcases hm9 with ⟨g2, c2, h, h2⟩ | ⟨h, h2⟩
        · injection h with e1 e2 e3
          subst e1 e2 e3
          have := hk9 g2 rfl
          exact .inl ⟨g2, c, rfl, (h2.other ⟨w.heap.size + 2, 0, none⟩ _ (by simp; omega)).other ⟨w.heap.size + 2, 1, none⟩ _ (by simp; omega)⟩
        · exact .inr ⟨h, h2⟩
      have HKK : Hid (∀ k, (Value.slice a n c).ownBlock = some k → w.heap.size ≤ k) := fun k e => by have := hk9 k e; omega
      clear hm9 hb9 hp9 hk9 f0 f1 f2 t0
      go_wp2
      exact bodyPost_ret (v := .agg #[.slice a n c, .int .i64 P.2]) (by simp [results, Try.results11, go_sem, o0, o1]) rfl ⟨_, by rw [HOO.out], by rw [HOO.out]; exact HMM.out, HKK.out, (HB9.out.setCell (p := ⟨w.heap.size + 2, 0, none⟩) (by simp) _).setCell (p := ⟨w.heap.size + 2, 1, none⟩) (by simp) _⟩
end Go.Proofs.Ytfpgobkedfhakaa.Tre
