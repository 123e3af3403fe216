/- What the program's TreePut answers. -/
import Derived.Test.YtfpgobkedfhakaaImplWith
import Derived.Test.YtfpgobkedfhakaaImplTree2
import Derived.Test.YtfpgobkedfhakaaImplOther
import Derived.Test.YtfpgobkedfhakaaSpecPut4
namespace Go.Proofs.Ytfpgobkedfhakaa.Tre
open Go.RowKit Go.Proofs.Ytfpgobkedfhakaa.Mem Go.Proofs.Ytfpgobkedfhakaa.Gf Go.Proofs.Ytfpgobkedfhakaa.Harn Go.Proofs.Ytfpgobkedfhakaa.Mark

theorem putO_full {l : List Fl} {f : Fl} (hr : treeR l = true) (hc : (l.any fun y => cross y.p f.p) = false) (h6 : (otherL l f.p).length = 6) : putO l f = ([], 9) := by
  have h := put_other f (sor_tree hr)
  have hl : (putL l f).length = 7 := by
    rw [← h]
    have := placeL_le (otherL l f.p) f.p
    simp; omega
  unfold putO
  rw [hc, if_neg (by simp), if_neg (by omega)]
theorem putO_fits {l : List Fl} {f : Fl} (hr : treeR l = true) (hc : (l.any fun y => cross y.p f.p) = false) (h6 : ¬ (otherL l f.p).length = 6) : putO l f = (insL (otherL l f.p) (placeL (otherL l f.p) f.p) f, 0) := by
  have h := put_other f (sor_tree hr)
  have h2 := treeR_le hr
  have h3 := other_le l f.p
  have hl : (putL l f).length ≤ 6 := by
    rw [← h]
    have := placeL_le (otherL l f.p) f.p
    simp; omega
  unfold putO
  rw [hc, if_neg (by simp), if_pos hl]
  show (putL l f, (0 : Int)) = (insL _ _ _, 0)
  unfold insL
  rw [h]
theorem putO_cross {l : List Fl} {f : Fl} (hc : (l.any fun y => cross y.p f.p) = true) : putO l f = ([], 10) := by
  unfold putO
  rw [hc, if_pos rfl]
set_option maxRecDepth 100000 in
set_option maxHeartbeats 2000000 in
theorem implTP_any (g : Nat) (l : List Fl) (f : Fl) (w : World) (h : FilesAt w g 0 l) (hn : l.length ≤ maxLen) (hs : ∀ y ∈ l, y.p.size ≤ maxLen ∧ y.d.size ≤ maxLen) (hd : f.d.size ≤ maxLen) :
    Calls Try.prog 14 #[.agg #[.slice (some ⟨g, 0, none⟩) l.length l.length], f.val] w fun e w' => ∃ v, e = .returned (.agg #[v, .int .i64 (putTO l f).2]) ∧ Mk w' v (putTO l f).1 ∧ (∀ k, v.ownBlock = some k → w.heap.size ≤ k ∧ k < w'.heap.size) ∧ Below w.heap.size w w' := by
  have KR := hidT (fun W (hW : FilesAt W g 0 l) => implTR_any _ l W (hW.files l.length) hn hs (fun a n c e => by injection e; omega))
  have KF := hidT (fun W => implFile_any f W hd)
  have SZ : Hid (treeR l = true → ∀ y ∈ l, y.p.size ≤ 20 ∧ y.d.size ≤ 80) := fun hr y hy => by
    obtain ⟨i, hi, rfl⟩ := List.getElem_of_mem hy
    have := fileR_le (goodAt_file (treeR_at hr i hi))
    exact ⟨this.1, this.2.2.2⟩
  have KC : Hid (treeR l = true → fileR f = true → ∀ W, FilesAt W g 0 l → Calls Try.prog 49 #[.slice (some ⟨g, 0, none⟩) l.length l.length, .string f.p] W fun e w' => e = .returned (.bool (l.any fun y => cross y.p f.p)) ∧ Below W.heap.size W w') := fun hr hf W hW => clashes_any _ l f.p W (hW.files l.length) (treeR_le hr) (fun y hy => (SZ.out hr y hy).1) (fileR_le hf).1
  have KO : Hid (treeR l = true → ∀ W, FilesAt W g 0 l → Calls Try.prog 50 #[.slice (some ⟨g, 0, none⟩) l.length l.length, .string f.p] W fun e w' => ∃ u, e = .returned u ∧ OwnF w' W.heap.size u (otherL l f.p) ∧ Below W.heap.size W w') := fun hr W hW => otherFiles_any _ l f.p W (hW.files l.length) (by have := treeR_le hr; omega) (fun y hy => by have := SZ.out hr y hy; omega)
  have KW : Hid (treeR l = true → fileR f = true → ∀ W v base, OwnF W base v (otherL l f.p) → base ≤ W.heap.size → Calls Try.prog 51 #[v, f.val] W fun e w' => ∃ u, e = .returned u ∧ Mk w' u (insL (otherL l f.p) (placeL (otherL l f.p) f.p) f) ∧ (∀ g, u.ownBlock = some g → base ≤ g ∧ g < w'.heap.size) ∧ Below base W w') := fun hr hf W v base hV hb => withFile_any v (otherL l f.p) f base W hV (sor_other f.p (sor_tree hr)) hb (by have := other_le l f.p; have := treeR_le hr; omega) (by have := fileR_le hf; omega) (by have := fileR_le hf; omega)
  have HF := hidT h
  have P1 : Hid (treeR l = true → (l.any fun y => cross y.p f.p) = true → putO l f = ([], 10)) := fun _ hc => putO_cross hc
  have P2 : Hid (treeR l = true → (l.any fun y => cross y.p f.p) = false → (otherL l f.p).length = 6 → putO l f = ([], 9)) := fun hr hc h6 => putO_full hr hc h6
  have P3 : Hid (treeR l = true → (l.any fun y => cross y.p f.p) = false → ¬ (otherL l f.p).length = 6 → putO l f = (insL (otherL l f.p) (placeL (otherL l f.p) f.p) f, 0)) := fun hr hc h6 => putO_fits hr hc h6
  have HO : Hid (putTO l f = if treeR l && fileR f then putO l f else ([], 1)) := rfl
  have HLO : Hid (treeR l = true → (otherL l f.p).length ≤ 6) := fun hr => by have := other_le l f.p; have := treeR_le hr; show _ ≤ _; omega
  generalize putTO l f = O at *
  generalize putO l f = P at *
  generalize treeR l = z1 at *
  generalize fileR f = z2 at *
  generalize (l.any fun y => cross y.p f.p) = z3 at *
  generalize insL (otherL l f.p) (placeL (otherL l f.p) f.p) f = L at *
  generalize otherL l f.p = lo at *
  obtain ⟨fp, fm, fd⟩ := f
  unfold Fl.val at *
  dsimp only at *
  clear h hn hs hd SZ
  obtain ⟨W0, hW0⟩ : ∃ W0, W0 = ((w.alloc (.cells #[.slice (some ⟨g, 0, none⟩) l.length l.length] 31)).alloc (.cells #[.string fp, .int .i64 fm, .string fd] 36)).alloc (.cells #[.slice none 0 0, .int .i64 0] 33) := ⟨_, rfl⟩
  have hp : PS w W0 g l ⟨fp, fm, fd⟩ := by rw [hW0]; exact ps_start w g l ⟨fp, fm, fd⟩ HF.out
  have hX0 := hW0.symm
  have HP0 := hidT hp
  clear hW0 hp
  have t0 : W0.cell? ⟨w.heap.size, 0, none⟩ = some (.slice (some ⟨g, 0, none⟩) l.length l.length) := Mem.cell_of_row HP0.out.tree 0
  have f0 : W0.cell? ⟨w.heap.size + 1, 0, none⟩ = some (.string fp) := Mem.cell_of_row HP0.out.file 0
  have f1 : W0.cell? ⟨w.heap.size + 1, 1, none⟩ = some (.int .i64 fm) := Mem.cell_of_row HP0.out.file 1
  have f2 : W0.cell? ⟨w.heap.size + 1, 2, none⟩ = some (.string fd) := Mem.cell_of_row HP0.out.file 2
  cases z1
  · have HOO : Hid (O = ([], 1)) := by rw [HO.out]; rfl
    go_enter Try.func14, Try.ntmps14
    go_wp2_with fail
    refine (KR.out _ HP0.out.files).mono ?_
    rintro e w1 ⟨rfl, hb1⟩
    have HP1 := hidT (HP0.out.below hb1)
    clear hb1
    clear t0 f0 f1 f2
    have o0 : w1.cell? ⟨w.heap.size + 2, 0, none⟩ = some (.slice none 0 0) := Mem.cell_of_row HP1.out.out 0
    have o1 : w1.cell? ⟨w.heap.size + 2, 1, none⟩ = some (.int .i64 0) := Mem.cell_of_row HP1.out.out 1
    have of0 := Mem.frozen_of_row HP1.out.out 0
    have of1 := Mem.frozen_of_row HP1.out.out 1
    have HB9 := hidT HP1.out.bel
    go_wp2
    exact bodyPost_ret (v := .agg #[.slice none 0 0, .int .i64 1]) (by simp [results, Try.results14, go_sem, o0, o1]) rfl ⟨_, by rw [HOO.out], by rw [HOO.out]; exact .inr ⟨rfl, rfl⟩, fun k e => by simp [Value.ownBlock] at e, (HB9.out.setCell (p := ⟨w.heap.size + 2, 0, none⟩) (by simp) _).setCell (p := ⟨w.heap.size + 2, 1, none⟩) (by simp) _⟩
  · cases z2
    · have HOO : Hid (O = ([], 1)) := by rw [HO.out]; rfl
      go_enter Try.func14, Try.ntmps14
      go_wp2_with fail
      refine (KR.out _ HP0.out.files).mono ?_
      rintro e w1 ⟨rfl, hb1⟩
      have HP1 := hidT (HP0.out.below hb1)
      clear hb1
      clear t0 f0 f1 f2
      have f0 : w1.cell? ⟨w.heap.size + 1, 0, none⟩ = some (.string fp) := Mem.cell_of_row HP1.out.file 0
      have f1 : w1.cell? ⟨w.heap.size + 1, 1, none⟩ = some (.int .i64 fm) := Mem.cell_of_row HP1.out.file 1
      have f2 : w1.cell? ⟨w.heap.size + 1, 2, none⟩ = some (.string fd) := Mem.cell_of_row HP1.out.file 2
      go_wp2_with fail
      refine (KF.out _).mono ?_
      rintro e w2 ⟨rfl, hb1⟩
      have HP2 := hidT (HP1.out.below hb1)
      clear hb1
      clear f0 f1 f2
      have o0 : w2.cell? ⟨w.heap.size + 2, 0, none⟩ = some (.slice none 0 0) := Mem.cell_of_row HP2.out.out 0
      have o1 : w2.cell? ⟨w.heap.size + 2, 1, none⟩ = some (.int .i64 0) := Mem.cell_of_row HP2.out.out 1
      have of0 := Mem.frozen_of_row HP2.out.out 0
      have of1 := Mem.frozen_of_row HP2.out.out 1
      have HB9 := hidT HP2.out.bel
      go_wp2
      exact bodyPost_ret (v := .agg #[.slice none 0 0, .int .i64 1]) (by simp [results, Try.results14, go_sem, o0, o1]) rfl ⟨_, by rw [HOO.out], by rw [HOO.out]; exact .inr ⟨rfl, rfl⟩, fun k e => by simp [Value.ownBlock] at e, (HB9.out.setCell (p := ⟨w.heap.size + 2, 0, none⟩) (by simp) _).setCell (p := ⟨w.heap.size + 2, 1, none⟩) (by simp) _⟩
    · have HOO : Hid (O = P) := by rw [HO.out]; rfl
      have KC' := hidT (KC.out rfl rfl)
      have KO' := hidT (KO.out rfl)
      have KW' := hidT (KW.out rfl rfl)
      have P1' := hidT (P1.out rfl)
      have P2' := hidT (P2.out rfl)
      have P3' := hidT (P3.out rfl)
      have HLO' := hidT (HLO.out rfl)
      clear KC KO KW P1 P2 P3 HLO HO
      cases z3
      · by_cases h6 : lo.length = 6
        · have HOO2 : Hid (O = ([], 9)) := HOO.out.trans (P2'.out rfl h6)
          go_enter Try.func14, Try.ntmps14
          go_wp2_with fail
          refine (KR.out _ HP0.out.files).mono ?_
          rintro e w1 ⟨rfl, hb1⟩
          have HP1 := hidT (HP0.out.below hb1)
          clear hb1
          clear t0 f0 f1 f2
          have f0 : w1.cell? ⟨w.heap.size + 1, 0, none⟩ = some (.string fp) := Mem.cell_of_row HP1.out.file 0
          have f1 : w1.cell? ⟨w.heap.size + 1, 1, none⟩ = some (.int .i64 fm) := Mem.cell_of_row HP1.out.file 1
          have f2 : w1.cell? ⟨w.heap.size + 1, 2, none⟩ = some (.string fd) := Mem.cell_of_row HP1.out.file 2
          go_wp2_with fail
          refine (KF.out _).mono ?_
          rintro e w2 ⟨rfl, hb1⟩
          have HP2 := hidT (HP1.out.below hb1)
          clear hb1
          clear f0 f1 f2
          have t0 : w2.cell? ⟨w.heap.size, 0, none⟩ = some (.slice (some ⟨g, 0, none⟩) l.length l.length) := Mem.cell_of_row HP2.out.tree 0
          have f0 : w2.cell? ⟨w.heap.size + 1, 0, none⟩ = some (.string fp) := Mem.cell_of_row HP2.out.file 0
          have f1 : w2.cell? ⟨w.heap.size + 1, 1, none⟩ = some (.int .i64 fm) := Mem.cell_of_row HP2.out.file 1
          have f2 : w2.cell? ⟨w.heap.size + 1, 2, none⟩ = some (.string fd) := Mem.cell_of_row HP2.out.file 2
          go_wp2_with fail
          refine (KC'.out _ HP2.out.files).mono ?_
          rintro e w3 ⟨rfl, hb1⟩
          have HP3 := hidT (HP2.out.below hb1)
          clear hb1 t0 f0 f1 f2
          have t0 : w3.cell? ⟨w.heap.size, 0, none⟩ = some (.slice (some ⟨g, 0, none⟩) l.length l.length) := Mem.cell_of_row HP3.out.tree 0
          have f0 : w3.cell? ⟨w.heap.size + 1, 0, none⟩ = some (.string fp) := Mem.cell_of_row HP3.out.file 0
          have f1 : w3.cell? ⟨w.heap.size + 1, 1, none⟩ = some (.int .i64 fm) := Mem.cell_of_row HP3.out.file 1
          have f2 : w3.cell? ⟨w.heap.size + 1, 2, none⟩ = some (.string fd) := Mem.cell_of_row HP3.out.file 2
          go_wp2_with fail
          refine (KO'.out _ HP3.out.files).mono ?_
          rintro e w4 ⟨u, rfl, ho, hb1⟩
          have HP4 := hidT (HP3.out.below hb1)
          have HO4 := hidT ho
          have HSZ := hidT hb1.size
          obtain ⟨ad, c, rfl⟩ := ho.form
          clear hb1 ho t0 f0 f1 f2
          have o0 : w4.cell? ⟨w.heap.size + 2, 0, none⟩ = some (.slice none 0 0) := Mem.cell_of_row HP4.out.out 0
          have o1 : w4.cell? ⟨w.heap.size + 2, 1, none⟩ = some (.int .i64 0) := Mem.cell_of_row HP4.out.out 1
          have of0 := Mem.frozen_of_row HP4.out.out 0
          have of1 := Mem.frozen_of_row HP4.out.out 1
          have HB9 := hidT HP4.out.bel
          go_wp2
          exact bodyPost_ret (v := .agg #[.slice none 0 0, .int .i64 9]) (by simp [results, Try.results14, go_sem, o0, o1]) rfl ⟨_, by rw [HOO2.out], by rw [HOO2.out]; exact .inr ⟨rfl, rfl⟩, fun k e => by simp [Value.ownBlock] at e, (HB9.out.setCell (p := ⟨w.heap.size + 2, 0, none⟩) (by simp) _).setCell (p := ⟨w.heap.size + 2, 1, none⟩) (by simp) _⟩
        · have HOO2 : Hid (O = (L, 0)) := HOO.out.trans (P3'.out rfl h6)
          have h7 : ¬ ((lo.length : Int) = 6) := by omega
          go_enter Try.func14, Try.ntmps14
          go_wp2_with fail
          refine (KR.out _ HP0.out.files).mono ?_
          rintro e w1 ⟨rfl, hb1⟩
          have HP1 := hidT (HP0.out.below hb1)
          clear hb1
          clear t0 f0 f1 f2
          have f0 : w1.cell? ⟨w.heap.size + 1, 0, none⟩ = some (.string fp) := Mem.cell_of_row HP1.out.file 0
          have f1 : w1.cell? ⟨w.heap.size + 1, 1, none⟩ = some (.int .i64 fm) := Mem.cell_of_row HP1.out.file 1
          have f2 : w1.cell? ⟨w.heap.size + 1, 2, none⟩ = some (.string fd) := Mem.cell_of_row HP1.out.file 2
          go_wp2_with fail
          refine (KF.out _).mono ?_
          rintro e w2 ⟨rfl, hb1⟩
          have HP2 := hidT (HP1.out.below hb1)
          clear hb1
          clear f0 f1 f2
          have t0 : w2.cell? ⟨w.heap.size, 0, none⟩ = some (.slice (some ⟨g, 0, none⟩) l.length l.length) := Mem.cell_of_row HP2.out.tree 0
          have f0 : w2.cell? ⟨w.heap.size + 1, 0, none⟩ = some (.string fp) := Mem.cell_of_row HP2.out.file 0
          have f1 : w2.cell? ⟨w.heap.size + 1, 1, none⟩ = some (.int .i64 fm) := Mem.cell_of_row HP2.out.file 1
          have f2 : w2.cell? ⟨w.heap.size + 1, 2, none⟩ = some (.string fd) := Mem.cell_of_row HP2.out.file 2
          go_wp2_with fail
          refine (KC'.out _ HP2.out.files).mono ?_
          rintro e w3 ⟨rfl, hb1⟩
          have HP3 := hidT (HP2.out.below hb1)
          clear hb1 t0 f0 f1 f2
          have t0 : w3.cell? ⟨w.heap.size, 0, none⟩ = some (.slice (some ⟨g, 0, none⟩) l.length l.length) := Mem.cell_of_row HP3.out.tree 0
          have f0 : w3.cell? ⟨w.heap.size + 1, 0, none⟩ = some (.string fp) := Mem.cell_of_row HP3.out.file 0
          have f1 : w3.cell? ⟨w.heap.size + 1, 1, none⟩ = some (.int .i64 fm) := Mem.cell_of_row HP3.out.file 1
          have f2 : w3.cell? ⟨w.heap.size + 1, 2, none⟩ = some (.string fd) := Mem.cell_of_row HP3.out.file 2
          go_wp2_with fail
          refine (KO'.out _ HP3.out.files).mono ?_
          rintro e w4 ⟨u, rfl, ho, hb1⟩
          have HP4 := hidT (HP3.out.below hb1)
          have HO4 := hidT ho
          have HSZ := hidT hb1.size
          obtain ⟨ad, c, rfl⟩ := ho.form
          clear hb1 ho t0 f0 f1 f2
          have f0 : w4.cell? ⟨w.heap.size + 1, 0, none⟩ = some (.string fp) := Mem.cell_of_row HP4.out.file 0
          have f1 : w4.cell? ⟨w.heap.size + 1, 1, none⟩ = some (.int .i64 fm) := Mem.cell_of_row HP4.out.file 1
          have f2 : w4.cell? ⟨w.heap.size + 1, 2, none⟩ = some (.string fd) := Mem.cell_of_row HP4.out.file 2
          go_wp2_with fail
          refine (KW'.out _ _ w3.heap.size HO4.out HSZ.out).mono ?_
          rintro e w9 ⟨v, rfl, hm9, hk9, hb9⟩
          have hout9 : HasRow w9 (w.heap.size + 2) [.slice none 0 0, .int .i64 0] 33 := Sha.row_below HP4.out.out hb9 (by have := HP3.out.size; omega)
          have o0 : w9.cell? ⟨w.heap.size + 2, 0, none⟩ = some (.slice none 0 0) := Mem.cell_of_row hout9 0
          have o1 : w9.cell? ⟨w.heap.size + 2, 1, none⟩ = some (.int .i64 0) := Mem.cell_of_row hout9 1
          have of0 := Mem.frozen_of_row hout9 0
          have of1 := Mem.frozen_of_row hout9 1
          have HB9 : Hid (Below w.heap.size w w9) := HP4.out.bel.trans (hb9.mono (by have := HP3.out.size; omega))
          have hz3 := HP3.out.size
          obtain ⟨a, n, c, rfl⟩ : ∃ a n c, v = .slice a n c := by
            rcases hm9 with ⟨g, c, h, _⟩ | ⟨h, _⟩
            · exact ⟨_, _, _, h⟩
            · exact ⟨_, _, _, h⟩
          have HKK : Hid (∀ k, (Value.slice a n c).ownBlock = some k → w.heap.size ≤ k ∧ k < w9.heap.size) := fun k hk => by have := hk9 k hk; omega
          have HMM : Hid (Mk ((w9.setCell ⟨w.heap.size + 2, 0, none⟩ (.slice a n c)).setCell ⟨w.heap.size + 2, 1, none⟩ (.int .i64 0)) (.slice a n c) L) := by
            rcases hm9 with ⟨g2, c2, h, h2⟩ | ⟨h, h2⟩
            · injection h with e1 e2 e3
              subst e1 e2 e3
              have := hk9 g2 rfl
              exact .inl ⟨g2, c, rfl, (h2.other ⟨w.heap.size + 2, 0, none⟩ _ (by simp; omega)).other ⟨w.heap.size + 2, 1, none⟩ _ (by simp; omega)⟩
            · exact .inr ⟨h, h2⟩
          clear hm9 hb9 hout9 hk9 f0 f1 f2
          go_wp2
          exact bodyPost_ret (v := .agg #[.slice a n c, .int .i64 0]) (by simp [results, Try.results14, go_sem, o0, o1]) rfl ⟨_, by rw [HOO2.out], by rw [HOO2.out]; exact HMM.out, fun k e => by have := HKK.out k e; simpa using this, (HB9.out.setCell (p := ⟨w.heap.size + 2, 0, none⟩) (by simp) _).setCell (p := ⟨w.heap.size + 2, 1, none⟩) (by simp) _⟩
      · have HOO2 : Hid (O = ([], 10)) := HOO.out.trans (P1'.out rfl)
        go_enter Try.func14, Try.ntmps14
        go_wp2_with fail
        refine (KR.out _ HP0.out.files).mono ?_
        rintro e w1 ⟨rfl, hb1⟩
        have HP1 := hidT (HP0.out.below hb1)
        clear hb1
        clear t0 f0 f1 f2
        have f0 : w1.cell? ⟨w.heap.size + 1, 0, none⟩ = some (.string fp) := Mem.cell_of_row HP1.out.file 0
        have f1 : w1.cell? ⟨w.heap.size + 1, 1, none⟩ = some (.int .i64 fm) := Mem.cell_of_row HP1.out.file 1
        have f2 : w1.cell? ⟨w.heap.size + 1, 2, none⟩ = some (.string fd) := Mem.cell_of_row HP1.out.file 2
        go_wp2_with fail
        refine (KF.out _).mono ?_
        rintro e w2 ⟨rfl, hb1⟩
        have HP2 := hidT (HP1.out.below hb1)
        clear hb1
        clear f0 f1 f2
        have t0 : w2.cell? ⟨w.heap.size, 0, none⟩ = some (.slice (some ⟨g, 0, none⟩) l.length l.length) := Mem.cell_of_row HP2.out.tree 0
        have f0 : w2.cell? ⟨w.heap.size + 1, 0, none⟩ = some (.string fp) := Mem.cell_of_row HP2.out.file 0
        have f1 : w2.cell? ⟨w.heap.size + 1, 1, none⟩ = some (.int .i64 fm) := Mem.cell_of_row HP2.out.file 1
        have f2 : w2.cell? ⟨w.heap.size + 1, 2, none⟩ = some (.string fd) := Mem.cell_of_row HP2.out.file 2
        go_wp2_with fail
        refine (KC'.out _ HP2.out.files).mono ?_
        rintro e w3 ⟨rfl, hb1⟩
        have HP3 := hidT (HP2.out.below hb1)
        clear hb1 t0 f0 f1 f2
        have o0 : w3.cell? ⟨w.heap.size + 2, 0, none⟩ = some (.slice none 0 0) := Mem.cell_of_row HP3.out.out 0
        have o1 : w3.cell? ⟨w.heap.size + 2, 1, none⟩ = some (.int .i64 0) := Mem.cell_of_row HP3.out.out 1
        have of0 := Mem.frozen_of_row HP3.out.out 0
        have of1 := Mem.frozen_of_row HP3.out.out 1
        have HB9 := hidT HP3.out.bel
        go_wp2
        exact bodyPost_ret (v := .agg #[.slice none 0 0, .int .i64 10]) (by simp [results, Try.results14, go_sem, o0, o1]) rfl ⟨_, by rw [HOO2.out], by rw [HOO2.out]; exact .inr ⟨rfl, rfl⟩, fun k e => by simp [Value.ownBlock] at e, (HB9.out.setCell (p := ⟨w.heap.size + 2, 0, none⟩) (by simp) _).setCell (p := ⟨w.heap.size + 2, 1, none⟩) (by simp) _⟩
end Go.Proofs.Ytfpgobkedfhakaa.Tre
