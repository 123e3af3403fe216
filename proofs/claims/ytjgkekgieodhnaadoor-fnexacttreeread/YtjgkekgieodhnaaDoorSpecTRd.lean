/- What the model's TreeRead answers. -/
import Derived.Test.YtjgkekgieodhnaaDoorTextsD
import Derived.Test.YtjgkekgieodhnaaDoorFileOwn
import Derived.Test.YtjgkekgieodhnaaDoorTextsA
namespace Go.Proofs.YtjgkekgieodhnaaDoor.Tre
open Go.RowKit Go.Proofs.YtjgkekgieodhnaaDoor.Mem Go.Proofs.YtjgkekgieodhnaaDoor.Gf Go.Proofs.YtjgkekgieodhnaaDoor.Harn Go.Proofs.YtjgkekgieodhnaaDoor.Mark Go.Proofs.YtjgkekgieodhnaaDoor.Disk Go.Proofs.YtjgkekgieodhnaaDoor.Frm

theorem ill_any (c : Int) (w : World) : Calls Tryd.prog 9 #[.int .i64 c] w fun e w' => e = .returned (.agg #[.slice none 0 0, .int .i64 c]) ∧ Below w.heap.size w w' := by
  go_enter Tryd.func9, Tryd.ntmps9
  go_wp2
  exact bodyPost_ret (v := .agg #[.slice none 0 0, .int .i64 c]) (by simp [results, Tryd.results9, go_sem]) rfl ⟨rfl, (Below.refl _ _).alloc (Nat.le_refl _) _⟩
theorem OwnF.only {W W' : World} {base R : Nat} {v : Value} {l : List Fl} (h : OwnF W base v l) (ho : Only (fun k => k = R) W W') (hR : R < base) : OwnF W' base v l := h.same (fun g hg => ho.block g (h.lt g hg).2 (by have := (h.lt g hg).1; omega)) (Nat.le_refl _)
noncomputable def rT (s : ByteArray) (a : Int) (b : Bool) : ByteArray × Int × Bool := (if b = false then (gT s a).1 else ByteArray.empty, if b = false ∧ (gT s a).2.2 = 0 then (gT s a).2.1 else a, b || decide ((gT s a).2.2 ≠ 0))
noncomputable def rN (s : ByteArray) (a : Int) (b : Bool) : Int × Int × Bool := (if b = false ∧ (gN s a).2.2 = 0 then (gN s a).1 else 0, if b = false ∧ (gN s a).2.2 = 0 then (gN s a).2.1 else a, b || decide ((gN s a).2.2 ≠ 0))
theorem rT_bd {s : ByteArray} {a : Int} (h : 0 ≤ a ∧ a ≤ 8000) (b : Bool) : 0 ≤ (rT s a b).2.1 ∧ (rT s a b).2.1 ≤ 8000 := by
  have := (gT_spec s a (by omega)).ok
  unfold rT; dsimp only; split <;> omega
theorem rN_bd {s : ByteArray} {a : Int} (h : 0 ≤ a ∧ a ≤ 8000) (b : Bool) : 0 ≤ (rN s a b).2.1 ∧ (rN s a b).2.1 ≤ 8000 := by
  have := (gN_spec s a (by omega)).ok
  unfold rN; dsimp only; split <;> omega
theorem textR (R : Nat) (s : ByteArray) (a : Int) (b : Bool) (h : 0 ≤ a ∧ a ≤ 8000) (w : World) (hr : Rdr w R s a b) :
    Calls Tryd.prog 11 #[.pointer (some ⟨R, 0, none⟩)] w fun e w' => e = .returned (.string (rT s a b).1) ∧ Rdr w' R s (rT s a b).2.1 (rT s a b).2.2 ∧ Only (fun k => k = R) w w' :=
  text2_any R s a _ _ _ b w hr (gT_spec s a (by omega))
theorem numR (R : Nat) (s : ByteArray) (a : Int) (b : Bool) (h : 0 ≤ a ∧ a ≤ 8000) (w : World) (hr : Rdr w R s a b) :
    Calls Tryd.prog 12 #[.pointer (some ⟨R, 0, none⟩)] w fun e w' => e = .returned (.int .i64 (rN s a b).1) ∧ Rdr w' R s (rN s a b).2.1 (rN s a b).2.2 ∧ Only (fun k => k = R) w w' :=
  num_any R s a _ _ _ b w hr (gN_spec s a (by omega)).num
/-- a file, read by three calls -/
theorem file_three (s : ByteArray) (a : Int) :
    ((rT s (rN s (rT s a false).2.1 (rT s a false).2.2).2.1 (rN s (rT s a false).2.1 (rT s a false).2.2).2.2).2.2 = !fOk s a) ∧
    (fOk s a = true → (⟨(rT s a false).1, (rN s (rT s a false).2.1 (rT s a false).2.2).1, (rT s (rN s (rT s a false).2.1 (rT s a false).2.2).2.1 (rN s (rT s a false).2.1 (rT s a false).2.2).2.2).1⟩ : Fl) = fF s a ∧ (rT s (rN s (rT s a false).2.1 (rT s a false).2.2).2.1 (rN s (rT s a false).2.1 (rT s a false).2.2).2.2).2.1 = fP s a) := by
  by_cases h1 : (gT s a).2.2 = 0
  · by_cases h2 : (gN s (gT s a).2.1).2.2 = 0
    · by_cases h3 : (gT s (gN s (gT s a).2.1).2.1).2.2 = 0
      · simp [rT, rN, fOk, fF, fP, h1, h2, h3]
      · simp [rT, rN, fOk, fF, fP, h1, h2, h3]
    · simp [rT, rN, fOk, fF, fP, h1, h2]
  · simp [rT, rN, fOk, fF, fP, h1]
theorem rdFs_small {s : ByteArray} : ∀ {m : Nat} {a : Int} {l : List Fl}, 0 ≤ a ∧ a ≤ 8000 → rdFs s m a = some l → ∀ y ∈ l, y.p.size ≤ maxLen ∧ y.d.size ≤ maxLen
  | 0, a, l, _, h => by simp [rdFs] at h; subst h; simp
  | m + 1, a, l, ha, h => by
    unfold rdFs at h
    split at h
    · cases h2 : rdFs s m (fP s a) with
      | none => rw [h2] at h; cases h
      | some l2 =>
        rw [h2] at h
        simp at h
        subst h
        have x1 := gT_spec s a (by omega)
        have x2 := gN_spec s (gT s a).2.1 (by have := x1.ok; omega)
        have x3 := gT_spec s (gN s (gT s a).2.1).2.1 (by have := x2.ok; omega)
        intro y hy
        rcases List.mem_cons.1 hy with rfl | hy
        · exact ⟨by have := x1.small; unfold fF maxLen; dsimp only; omega, by have := x3.small; unfold fF maxLen; dsimp only; omega⟩
        · exact rdFs_small x3.ok h2 y hy
    · cases h
theorem specL_small {s : ByteArray} {l : List Fl} (_ : s.size ≤ 8000) (h : specL s = some l) : ∀ y ∈ l, y.p.size ≤ maxLen ∧ y.d.size ≤ maxLen := by
  unfold specL at h
  split at h
  · exact rdFs_small (gN_spec s 0 (by omega)).ok h
  · cases h
theorem treeB_pos (l : List Fl) : (treeB l).toList.isEmpty = false := by
  have h := (numB_size (l.length : Nat)).1
  have e : treeB l = PutNum.numB (l.length : Nat) ++ catB (filesT l) := rfl
  have h2 : 0 < (treeB l).data.toList.length := by
    have : (treeB l).data.toList.length = (treeB l).size := rfl
    rw [this, e, ByteArray.size_append]; omega
  rw [Lib.toList_data]
  cases h3 : (treeB l).data.toList with
  | nil => rw [h3] at h2; simp at h2
  | cons a b => rfl
theorem ok_empty {s : ByteArray} {l : List Fl} (h : s.toList.isEmpty = true) : (treeR l && (treeB l).toList == s.toList) = false := by
  cases h2 : ((treeB l).toList == s.toList)
  · simp
  · have := treeB_pos l
    rw [beq_iff_eq.1 h2, h] at this; cases this
theorem ok_cmp {s : ByteArray} {l : List Fl} (h : s.toList.isEmpty = false) : (treeR l && (treeB l).toList == s.toList) = ((treeO l).toList == s.toList) := by
  unfold treeO
  cases treeR l
  · rw [Bool.false_and]
    have e : (ByteArray.empty).toList = [] := by rw [Lib.toList_data]; rfl
    cases h3 : s.toList with
    | nil => rw [h3] at h; cases h
    | cons a b => simp [e]
  · rfl
/-- what stands while a tree is read -/
structure SS (w W : World) (s : ByteArray) (a : Int) (bad : Bool) (u : Value) (l : List Fl) : Prop where
  bel : Below w.heap.size w W
  size : w.heap.size + 3 ≤ W.heap.size
  out : HasRow W w.heap.size [.slice none 0 0, .int .i64 0] 26
  rdr : Rdr W (w.heap.size + 1) s a bad
  tree : HasRow W (w.heap.size + 2) [u] 24
  own : OwnF W (w.heap.size + 3) u l
theorem SS.read {w W W' : World} {s : ByteArray} {a a' : Int} {bad bad' : Bool} {u : Value} {l : List Fl} (h : SS w W s a bad u l) (ho : Only (fun k => k = w.heap.size + 1) W W') (hr : Rdr W' (w.heap.size + 1) s a' bad') : SS w W' s a' bad' u l :=
  ⟨Only.below ho h.bel (by have := h.size; omega) (fun k h1 h2 => by omega), by have := h.size; have := ho.size; omega, Only.row ho h.out (by omega), hr, Only.row ho h.tree (by omega), h.own.only ho (by omega)⟩
theorem SS.below {w W W' : World} {s : ByteArray} {a : Int} {bad : Bool} {u : Value} {l : List Fl} (h : SS w W s a bad u l) (hb : Below W.heap.size W W') : SS w W' s a bad u l := by
  have := h.size
  have := hb.size
  exact ⟨h.bel.trans (hb.mono (by omega)), by omega, Sha.row_below h.out hb (by omega), Rdr.below h.rdr hb (by omega), Sha.row_below h.tree hb (by omega), h.own.below hb (Nat.le_refl _)⟩
theorem SS.far {w W : World} {s : ByteArray} {a : Int} {bad : Bool} {u : Value} {l : List Fl} (h : SS w W s a bad u l) {B : Nat} (o : Nat) (v : Value) (hB : w.heap.size + 3 ≤ B) (hne : u.ownBlock ≠ some B) : SS w (W.setCell ⟨B, o, none⟩ v) s a bad u l := by
  have := h.size
  exact ⟨h.bel.setCell (by simp only; omega) _, by simpa using h.size, Sha.row_other h.out _ _ (by simp only; omega), Sha.row_other h.rdr _ _ (by simp only; omega), Sha.row_other h.tree _ _ (by simp only; omega), h.own.setCell (by simpa using hne) _⟩
theorem row_grown {W W' : World} {r : Option Nat} {g : Nat} {cs : List Value} {e : TypeId} (h : HasRow W g cs e) (hg : W.grownBy W' r) (hne : some g ≠ r) : HasRow W' g cs e := by
  have hlt : g < W.heap.size := by
    rcases Nat.lt_or_ge g W.heap.size with h1 | h1
    · exact h1
    · unfold HasRow at h; rw [Array.getElem?_eq_none h1] at h; cases h
  unfold HasRow at *
  rw [hg.block g hlt hne, h]
theorem SS.grown {w W W' : World} {s : ByteArray} {a : Int} {bad : Bool} {u u' : Value} {l l' : List Fl} (h : SS w W s a bad u l) (o : Obj) (hg : (W.alloc o).grownBy W' u.ownBlock) (ho : OwnF W' (w.heap.size + 3) u' l') : SS w (W'.setCell ⟨w.heap.size + 2, 0, none⟩ u') s a bad u' l' := by
  have hz := h.size
  have hne : ∀ k, k < w.heap.size + 3 → some k ≠ u.ownBlock := fun k hk e => by have := (h.own.lt k e.symm).1; omega
  have hb := h.bel.alloc (by omega) o
  have hz2 := hg.size
  simp at hz2
  have hb2 := hb.grown hg (by simp; omega) (fun j hj => by have := (h.own.lt j hj).1; omega)
  have hT := row_set (row_grown (Sha.row_alloc h.tree o) hg (hne _ (by omega))) 0 u'
  exact ⟨hb2.setCell (by simp only; omega) _, by simp; omega, Sha.row_other (row_grown (Sha.row_alloc h.out o) hg (hne _ (by omega))) _ _ (by simp only; omega), Sha.row_other (row_grown (Sha.row_alloc h.rdr o) hg (hne _ (by omega))) _ _ (by simp only; omega), hT, ho.setCell (fun e => by have := (ho.lt _ e).1; simp only at this; omega) _⟩
set_option maxRecDepth 100000 in
set_option maxHeartbeats 1000000 in
theorem specTRd_any (s : ByteArray) (w : World) (hs : s.size ≤ 8000) :
    Calls Tryd.prog 4 #[.string s] w fun e w' => ∃ v, e = .returned (.agg #[v, .int .i64 (outC s)]) ∧ Mk w' v (outL s) ∧ Below w.heap.size w w' := by
  have hs' : ¬ (8000 : Int) < (s.size : Int) := by omega
  have HO0 : HasRow (((w.alloc (.cells #[.slice none 0 0, .int .i64 0] 26)).alloc (.cells #[.string s, .int .i64 0, .bool false] 34)).alloc (.cells #[.slice none 0 0] 24)) w.heap.size [.slice none 0 0, .int .i64 0] 26 := Sha.row_alloc (Sha.row_alloc (Sha.row_new w [.slice none 0 0, .int .i64 0] _) _) _
  have HR0 : Rdr (((w.alloc (.cells #[.slice none 0 0, .int .i64 0] 26)).alloc (.cells #[.string s, .int .i64 0, .bool false] 34)).alloc (.cells #[.slice none 0 0] 24)) (w.heap.size + 1) s 0 false := Sha.row_alloc (Sha.row_new_at (w.alloc (.cells #[.slice none 0 0, .int .i64 0] 26)) [.string s, .int .i64 0, .bool false] _ (w.heap.size + 1) (by simp)) _
  have HT0 : HasRow (((w.alloc (.cells #[.slice none 0 0, .int .i64 0] 26)).alloc (.cells #[.string s, .int .i64 0, .bool false] 34)).alloc (.cells #[.slice none 0 0] 24)) (w.heap.size + 2) [.slice none 0 0] 24 := Sha.row_new_at ((w.alloc (.cells #[.slice none 0 0, .int .i64 0] 26)).alloc (.cells #[.string s, .int .i64 0, .bool false] 34)) [.slice none 0 0] _ (w.heap.size + 2) (by simp)
  have hB0 : Below w.heap.size w (((w.alloc (.cells #[.slice none 0 0, .int .i64 0] 26)).alloc (.cells #[.string s, .int .i64 0, .bool false] 34)).alloc (.cells #[.slice none 0 0] 24)) := (((Below.refl _ _).alloc (Nat.le_refl _) _).alloc (by simp) _).alloc (by simp; omega) _
  have hz0 : (((w.alloc (.cells #[.slice none 0 0, .int .i64 0] 26)).alloc (.cells #[.string s, .int .i64 0, .bool false] 34)).alloc (.cells #[.slice none 0 0] 24)).heap.size = w.heap.size + 3 := by simp
  have KM : Hid (∀ W, Rdr W (w.heap.size + 1) s 0 false → _) := fun W hr => many_any (w.heap.size + 1) s 0 _ _ _ W hr (gN_spec s 0 (by omega))
  go_enter Tryd.func4, Tryd.ntmps4
  obtain ⟨W0, hW0⟩ : ∃ W0, W0 = ((w.alloc (.cells #[.slice none 0 0, .int .i64 0] 26)).alloc (.cells #[.string s, .int .i64 0, .bool false] 34)).alloc (.cells #[.slice none 0 0] 24) := ⟨_, rfl⟩
  go_wp2_with fail
  rw [← hW0] at HO0 HR0 HT0 hB0 hz0 ⊢
  clear hW0
  refine (KM.out _ HR0).mono ?_
  rintro e w1 ⟨hres, ho⟩
  have HO1 : HasRow w1 w.heap.size [.slice none 0 0, .int .i64 0] 26 := Only.row ho HO0 (by omega)
  have HT1 : HasRow w1 (w.heap.size + 2) [.slice none 0 0] 24 := Only.row ho HT0 (by omega)
  have HB1 := hidT (Only.below ho hB0 (by omega) (fun k h1 h2 => by omega) : Below w.heap.size w w1)
  have hz1 : w.heap.size + 3 ≤ w1.heap.size := by have := ho.size; omega
  have HO := hidT HO1
  have HT := hidT HT1
  clear HO0 HR0 HT0 hB0 hz0 ho HO1 HT1 KM
  obtain ⟨j0, bad, a0, hj0, HR1, hE⟩ : ∃ (j0 : Nat) (bad : Bool) (a0 : Int), e = .returned (.int .i64 (j0 : Nat)) ∧ Rdr w1 (w.heap.size + 1) s a0 bad ∧ ((bad = false ∧ 0 ≤ a0 ∧ a0 ≤ 8000 ∧ j0 ≤ 6 ∧ specL s = rdFs s j0 a0) ∨ (bad = true ∧ specL s = none ∧ j0 ≤ 6)) := by
    rcases hres with ⟨hc, rfl, hr1⟩ | ⟨hc, rfl, a', hr1⟩
    · obtain ⟨m, hm⟩ := Int.eq_ofNat_of_zero_le hc.2.1
      have hok := (gN_spec s 0 (by omega)).ok
      refine ⟨m, false, _, by rw [hm], hr1, .inl ⟨rfl, hok.1, hok.2, by omega, ?_⟩⟩
      unfold specL
      rw [if_pos hc, hm]; rfl
    · refine ⟨0, true, a', rfl, hr1, .inr ⟨rfl, ?_, by omega⟩⟩
      unfold specL
      rw [if_neg hc]
  clear hres
  subst hj0
  have HR := hidT HR1
  have HE := hidT hE
  obtain ⟨r0, r1, r2, rf⟩ := HR1.cells
  clear HR1 hE
  go_wp2
  clear r0 r1 r2 rf
  have HS1 : Hid (SS w w1 s a0 bad (.slice none 0 0) []) := ⟨HB1.out, hz1, HO.out, HR.out, HT.out, ownF_nil _ _⟩
  clear HO HR HT HB1 hz1
  go_loopw [5] (fun kk wr => ∃ (j : Nat) (bad : Bool) (a : Int) (l : List Fl) (u : Value), kk = .int .i64 (j : Nat) ∧ SS w wr s a bad u l ∧ l.length + j ≤ 6 ∧ Hid ((bad = false ∧ 0 ≤ a ∧ a ≤ 8000 ∧ specL s = (rdFs s j a).map (l ++ ·)) ∨ (bad = true ∧ specL s = none))) (fun kk _ => (intOf kk).toNat)
  case atStart =>
    refine ⟨j0, bad, a0, [], .slice none 0 0, rfl, HS1.out, ?_, ?_⟩
    · rcases HE.out with ⟨_, _, _, h, _⟩ | ⟨_, _, h⟩ <;> simpa using h
    · rcases HE.out with ⟨h1, h2, h3, _, h4⟩ | ⟨h1, h2, _⟩
      · exact .inl ⟨h1, h2, h3, by rw [h4]; simp⟩
      · exact .inr ⟨h1, h2⟩
  case round =>
    clear HE HS1
    obtain ⟨j, bad, a, l, u, rfl, hss, hlen, HE⟩ := hrel
    have HS := hidT hss
    obtain ⟨r0, r1, r2, rf⟩ := hss.rdr.cells
    have t0 : wr.cell? ⟨w.heap.size + 2, 0, none⟩ = some u := Mem.cell_of_row hss.tree 0
    clear hss
    cases bad
    · obtain ⟨ha0, ha8, hE⟩ : 0 ≤ a ∧ a ≤ 8000 ∧ specL s = (rdFs s j a).map (l ++ ·) := by
        rcases HE.out with ⟨_, h⟩ | ⟨h, _⟩
        · exact h
        · cases h
      have HE' := hidT hE
      clear HE hE
      cases j with
      | zero =>
        have hsome : specL s = some l := by rw [HE'.out]; simp [rdFs]
        have hsm := specL_small hs hsome
        have KB := hidT (fun W hW => specTB_any u l W hW (by unfold maxLen; omega) hsm)
        have hok : okL s = (treeR l && (treeB l).toList == s.toList) := by unfold okL; rw [spec_L hsome]
        have hout : okL s = true → outL s = l := fun h => by unfold outL; rw [h, spec_L hsome]; rfl
        have KI := hidT (ill_any 3)
        cases hemp : s.toList.isEmpty
        · rw [ok_cmp hemp] at hok
          have HFu := hidT (HS.out.own.mk.files)
          generalize treeO l = R at *
          clear HE' hsome hsm
          go_wp2_with fail
          refine (KB.out wr HFu.out).mono ?_
          rintro e w2 ⟨rfl, hb2⟩
          have HS2 := hidT (HS.out.below hb2)
          have t2 : w2.cell? ⟨w.heap.size + 2, 0, none⟩ = some u := Mem.cell_of_row HS2.out.tree 0
          have o0 : w2.cell? ⟨w.heap.size, 0, none⟩ = some (.slice none 0 0) := Mem.cell_of_row HS2.out.out 0
          have o1 : w2.cell? ⟨w.heap.size, 1, none⟩ = some (.int .i64 0) := Mem.cell_of_row HS2.out.out 1
          have of0 := Mem.frozen_of_row HS2.out.out 0
          have of1 := Mem.frozen_of_row HS2.out.out 1
          have hz2 := HS2.out.size
          clear hb2 t0 r0 r1 r2 rf HS HFu KB
          cases hcmp : (R.toList == s.toList)
          · rw [hcmp] at hok
            have e1 : outC s = 3 := by unfold outC; rw [hok]; rfl
            have e2 : outL s = [] := by unfold outL; rw [hok]; rfl
            have E1 := hidT e1
            have E2 := hidT e2
            clear e1 e2 hok hout
            go_wp2_with fail
            refine (KI.out w2).mono ?_
            rintro e w9 ⟨rfl, hb9⟩
            have hS9 := HS2.out.below hb9
            clear t2 o0 o1 of0 of1
            have o0 : w9.cell? ⟨w.heap.size, 0, none⟩ = some (.slice none 0 0) := Mem.cell_of_row hS9.out 0
            have o1 : w9.cell? ⟨w.heap.size, 1, none⟩ = some (.int .i64 0) := Mem.cell_of_row hS9.out 1
            have of0 := Mem.frozen_of_row hS9.out 0
            have of1 := Mem.frozen_of_row hS9.out 1
            have HB9 := hidT hS9.bel
            clear hb9 hS9
            go_wp2
            exact bodyPost_ret (v := .agg #[.slice none 0 0, .int .i64 3]) (by simp [results, Tryd.results4, go_sem, o0, o1]) rfl ⟨_, by rw [E1.out], by rw [E2.out]; exact .inr ⟨rfl, rfl⟩, (HB9.out.setCell (p := ⟨w.heap.size, 0, none⟩) (Nat.le_refl _) _).setCell (p := ⟨w.heap.size, 1, none⟩) (Nat.le_refl _) _⟩
          · rw [hcmp] at hok
            have e1 : outC s = 0 := by unfold outC; rw [hok]; rfl
            have e2 : outL s = l := hout hok
            have E1 := hidT e1
            have E2 := hidT e2
            have HM := hidT (HS2.out.own.mk)
            have HB2 := hidT HS2.out.bel
            have HOW := hidT HS2.out.own
            clear e1 e2 hok hout
            obtain ⟨ad, nn, cc, rfl⟩ : ∃ ad n c, u = .slice ad n c := by
              rcases HM.out with ⟨g, c, h, _⟩ | ⟨h, _⟩
              · exact ⟨_, _, _, h⟩
              · exact ⟨_, _, _, h⟩
            go_wp2
            exact bodyPost_ret (v := .agg #[.slice ad nn cc, .int .i64 0]) (by simp [results, Tryd.results4, go_sem, o0, o1]) rfl ⟨_, by rw [E1.out], by
              rw [E2.out]
              exact (HOW.out.setCell (a := ⟨w.heap.size, 0, none⟩) (fun e => by have := (HOW.out.lt _ e).1; simp only at this; omega) _ |>.setCell (a := ⟨w.heap.size, 1, none⟩) (fun e => by have := (HOW.out.lt _ e).1; simp only at this; omega) _).mk, (HB2.out.setCell (p := ⟨w.heap.size, 0, none⟩) (Nat.le_refl _) _).setCell (p := ⟨w.heap.size, 1, none⟩) (Nat.le_refl _) _⟩
        · rw [ok_empty hemp] at hok
          have e1 : outC s = 3 := by unfold outC; rw [hok]; rfl
          have e2 : outL s = [] := by unfold outL; rw [hok]; rfl
          have E1 := hidT e1
          have E2 := hidT e2
          clear e1 e2 hok hout
          clear HE' hsome hsm KB
          go_wp2_with fail
          refine (KI.out wr).mono ?_
          rintro e w9 ⟨rfl, hb9⟩
          have hS9 := HS.out.below hb9
          clear t0 r0 r1 r2 rf
          have o0 : w9.cell? ⟨w.heap.size, 0, none⟩ = some (.slice none 0 0) := Mem.cell_of_row hS9.out 0
          have o1 : w9.cell? ⟨w.heap.size, 1, none⟩ = some (.int .i64 0) := Mem.cell_of_row hS9.out 1
          have of0 := Mem.frozen_of_row hS9.out 0
          have of1 := Mem.frozen_of_row hS9.out 1
          have HB9 := hidT hS9.bel
          clear hb9 hS9
          go_wp2
          exact bodyPost_ret (v := .agg #[.slice none 0 0, .int .i64 3]) (by simp [results, Tryd.results4, go_sem, o0, o1]) rfl ⟨_, by rw [E1.out], by rw [E2.out]; exact .inr ⟨rfl, rfl⟩, (HB9.out.setCell (p := ⟨w.heap.size, 0, none⟩) (Nat.le_refl _) _).setCell (p := ⟨w.heap.size, 1, none⟩) (Nat.le_refl _) _⟩
      | succ j =>
        have hj : (0 : Int) < ((j + 1 : Nat) : Int) := by omega
        have b1 := rT_bd (s := s) ⟨ha0, ha8⟩ false
        have b2 := rN_bd (s := s) b1 (rT s a false).2.2
        have b3 := rT_bd (s := s) b2 (rN s (rT s a false).2.1 (rT s a false).2.2).2.2
        have K1 := hidT (fun W hr => textR (w.heap.size + 1) s a false ⟨ha0, ha8⟩ W hr)
        have K2 := hidT (fun W hr => numR (w.heap.size + 1) s _ (rT s a false).2.2 b1 W hr)
        have K3 := hidT (fun W hr => textR (w.heap.size + 1) s _ (rN s (rT s a false).2.1 (rT s a false).2.2).2.2 b2 W hr)
        have H3 := hidT (file_three s a)
        generalize (rT s (rN s (rT s a false).2.1 (rT s a false).2.2).2.1 (rN s (rT s a false).2.1 (rT s a false).2.2).2.2).1 = t3 at *
        generalize (rT s (rN s (rT s a false).2.1 (rT s a false).2.2).2.1 (rN s (rT s a false).2.1 (rT s a false).2.2).2.2).2.1 = a3 at *
        generalize (rT s (rN s (rT s a false).2.1 (rT s a false).2.2).2.1 (rN s (rT s a false).2.1 (rT s a false).2.2).2.2).2.2 = c3 at *
        generalize (rN s (rT s a false).2.1 (rT s a false).2.2).1 = n2 at *
        generalize (rN s (rT s a false).2.1 (rT s a false).2.2).2.1 = a2 at *
        generalize (rN s (rT s a false).2.1 (rT s a false).2.2).2.2 = c2 at *
        generalize (rT s a false).1 = t1 at *
        generalize (rT s a false).2.1 = a1 at *
        generalize (rT s a false).2.2 = c1 at *
        go_wp2_with fail
        refine (K1.out wr HS.out.rdr).mono ?_
        rintro e w2 ⟨rfl, hr2, ho2⟩
        have hs2 := HS.out.read ho2 hr2
        have hb2 : Below w2.heap.size w2 (w2.alloc (.cells #[.string t1, .int .i64 0, .string { data := #[] }] 38)) := (Below.refl _ _).alloc (Nat.le_refl _) _
        have HS2 := hidT (hs2.below hb2)
        have HF2 := hidT (Sha.row_new w2 [.string t1, .int .i64 0, .string { data := #[] }] 38)
        have hB3 : w.heap.size + 3 ≤ w2.heap.size := hs2.size
        have HNE : Hid (u.ownBlock ≠ some w2.heap.size) := fun e => by have := (hs2.own.lt _ e).2; omega
        clear HS hr2 ho2 r0 r1 r2 rf hs2 hb2 t0
        go_wp2_with fail
        refine (K2.out _ HS2.out.rdr).mono ?_
        rintro e w3 ⟨rfl, hr3, ho3⟩
        have hs3 := HS2.out.read ho3 hr3
        have hf3 : HasRow w3 w2.heap.size [.string t1, .int .i64 0, .string { data := #[] }] 38 := Only.row ho3 HF2.out (by omega)
        have m0 : w3.cell? ⟨w2.heap.size, 0, none⟩ = some (.string t1) := Mem.cell_of_row hf3 0
        have m1 : w3.cell? ⟨w2.heap.size, 1, none⟩ = some (.int .i64 0) := Mem.cell_of_row hf3 1
        have m2 : w3.cell? ⟨w2.heap.size, 2, none⟩ = some (.string { data := #[] }) := Mem.cell_of_row hf3 2
        have mf := Mem.frozen_of_row hf3
        have HS3 := hidT (hs3.far 1 (.int .i64 n2) hB3 HNE.out)
        have HF3 : Hid (HasRow (w3.setCell ⟨w2.heap.size, 1, none⟩ (.int .i64 n2)) w2.heap.size [.string t1, .int .i64 n2, .string { data := #[] }] 38) := row_set hf3 1 (.int .i64 n2)
        clear HS2 HF2 hr3 ho3 hs3 hf3
        go_wp2_with fail
        refine (K3.out _ HS3.out.rdr).mono ?_
        rintro e w4 ⟨rfl, hr4, ho4⟩
        have hs4 := HS3.out.read ho4 hr4
        have hf4 : HasRow w4 w2.heap.size [.string t1, .int .i64 n2, .string { data := #[] }] 38 := Only.row ho4 HF3.out (by omega)
        clear m0 m1 m2 mf
        have m0 : w4.cell? ⟨w2.heap.size, 0, none⟩ = some (.string t1) := Mem.cell_of_row hf4 0
        have m1 : w4.cell? ⟨w2.heap.size, 1, none⟩ = some (.int .i64 n2) := Mem.cell_of_row hf4 1
        have m2 : w4.cell? ⟨w2.heap.size, 2, none⟩ = some (.string { data := #[] }) := Mem.cell_of_row hf4 2
        have mf := Mem.frozen_of_row hf4
        have hs5 := hs4.far 2 (.string t3) hB3 HNE.out
        have hf5 : HasRow (w4.setCell ⟨w2.heap.size, 2, none⟩ (.string t3)) w2.heap.size [.string t1, .int .i64 n2, .string t3] 38 := row_set hf4 2 (.string t3)
        have q0 : (w4.setCell ⟨w2.heap.size, 2, none⟩ (.string t3)).cell? ⟨w.heap.size + 2, 0, none⟩ = some u := Mem.cell_of_row hs5.tree 0
        have qf := Mem.frozen_of_row hs5.tree
        have p0 : w4.cell? ⟨w.heap.size + 2, 0, none⟩ = some u := Mem.cell_of_row hs4.tree 0
        have pf := Mem.frozen_of_row hs4.tree
        have hl2 : w.heap.size + 2 < w4.heap.size := by have := hs4.size; omega
        have hl3 : w2.heap.size < w4.heap.size := World.block_lt_of_cell? w4 _ m0
        have hne2 : ¬ w2.heap.size = w.heap.size + 2 := by omega
        have HS5 := hidT hs5
        clear HS3 HF3 hr4 ho4 hs4 hs5 hf4
        go_wp2_with (at_builtin; refine wp_file (by rfl) _ _ (by rfl) (w.heap.size + 3) w4.heap.size u l ⟨t1, n2, t3⟩ (by rfl) (by rfl) (HS5.out.own.below ((Below.refl _ _).alloc (Nat.le_refl _) _) (Nat.le_refl _)) (by simp; omega) (Mem.cell_of_row (Sha.row_new_at (w4.setCell ⟨w2.heap.size, 2, none⟩ (.string t3)) [.string t1, .int .i64 n2, .string t3] 38 w4.heap.size (by simp)) 0) (Mem.cell_of_row (Sha.row_new_at (w4.setCell ⟨w2.heap.size, 2, none⟩ (.string t3)) [.string t1, .int .i64 n2, .string t3] 38 w4.heap.size (by simp)) 1) (Mem.cell_of_row (Sha.row_new_at (w4.setCell ⟨w2.heap.size, 2, none⟩ (.string t3)) [.string t1, .int .i64 n2, .string t3] 38 w4.heap.size (by simp)) 2) (by omega) ?_; intro g6 c6 w6 ho6 hg6; have HSN := hidT (HS5.out.grown _ hg6 ho6); have hT6 : HasRow w6 (w.heap.size + 2) [u] 24 := row_grown (Sha.row_alloc HS5.out.tree _) hg6 (fun e => by have := (HS5.out.own.lt _ e.symm).1; omega); have e0 : w6.cell? ⟨w.heap.size + 2, 0, none⟩ = some u := Mem.cell_of_row hT6 0; have ef := Mem.frozen_of_row hT6; clear ho6 hg6 hT6)
        refine ⟨⟨j, c3, a3, l ++ [⟨t1, n2, t3⟩], _, rfl, HSN.out, by simp; omega, ?_⟩, by simp [intOf]⟩
        obtain ⟨h31, h32⟩ := H3.out
        cases hok : fOk s a
        · refine .inr ⟨by rw [h31, hok]; rfl, ?_⟩
          rw [HE'.out]; simp [rdFs, hok]
        · obtain ⟨h33, h34⟩ := h32 hok
          refine .inl ⟨by rw [h31, hok]; rfl, b3.1, b3.2, ?_⟩
          rw [HE'.out, h33, h34]
          simp only [rdFs, hok, if_true, Option.map_map]
          congr 1
          funext x
          simp
    · have hno : specL s = none := by
        rcases HE.out with ⟨h, _⟩ | ⟨_, h⟩
        · cases h
        · exact h
      have hok : okL s = false := by
        cases h : okL s
        · rfl
        · rw [both_L hs h] at hno; cases hno
      have e1 : outC s = 3 := by unfold outC; rw [hok]; rfl
      have e2 : outL s = [] := by unfold outL; rw [hok]; rfl
      have KI := hidT (ill_any 3)
      have E1 := hidT e1
      have E2 := hidT e2
      clear e1 e2 hok hno HE
      cases j
      · go_wp2_with fail
        refine (KI.out wr).mono ?_
        rintro e w9 ⟨rfl, hb9⟩
        have hS9 := HS.out.below hb9
        clear t0 r0 r1 r2 rf
        have o0 : w9.cell? ⟨w.heap.size, 0, none⟩ = some (.slice none 0 0) := Mem.cell_of_row hS9.out 0
        have o1 : w9.cell? ⟨w.heap.size, 1, none⟩ = some (.int .i64 0) := Mem.cell_of_row hS9.out 1
        have of0 := Mem.frozen_of_row hS9.out 0
        have of1 := Mem.frozen_of_row hS9.out 1
        have HB9 := hidT hS9.bel
        clear hb9 hS9
        go_wp2
        exact bodyPost_ret (v := .agg #[.slice none 0 0, .int .i64 3]) (by simp [results, Tryd.results4, go_sem, o0, o1]) rfl ⟨_, by rw [E1.out], by rw [E2.out]; exact .inr ⟨rfl, rfl⟩, (HB9.out.setCell (p := ⟨w.heap.size, 0, none⟩) (Nat.le_refl _) _).setCell (p := ⟨w.heap.size, 1, none⟩) (Nat.le_refl _) _⟩
      · go_wp2_with fail
        refine (KI.out wr).mono ?_
        rintro e w9 ⟨rfl, hb9⟩
        have hS9 := HS.out.below hb9
        clear t0 r0 r1 r2 rf
        have o0 : w9.cell? ⟨w.heap.size, 0, none⟩ = some (.slice none 0 0) := Mem.cell_of_row hS9.out 0
        have o1 : w9.cell? ⟨w.heap.size, 1, none⟩ = some (.int .i64 0) := Mem.cell_of_row hS9.out 1
        have of0 := Mem.frozen_of_row hS9.out 0
        have of1 := Mem.frozen_of_row hS9.out 1
        have HB9 := hidT hS9.bel
        clear hb9 hS9
        go_wp2
        exact bodyPost_ret (v := .agg #[.slice none 0 0, .int .i64 3]) (by simp [results, Tryd.results4, go_sem, o0, o1]) rfl ⟨_, by rw [E1.out], by rw [E2.out]; exact .inr ⟨rfl, rfl⟩, (HB9.out.setCell (p := ⟨w.heap.size, 0, none⟩) (Nat.le_refl _) _).setCell (p := ⟨w.heap.size, 1, none⟩) (Nat.le_refl _) _⟩
end Go.Proofs.YtjgkekgieodhnaaDoor.Tre
