/- What the program's readTree answers. -/
import Derived.Test.YtjgkekgieodhnaaDoorImplTRd
import Derived.Test.YtjgkekgieodhnaaDoorSpecTRd
namespace Go.Proofs.YtjgkekgieodhnaaDoor.Tre
open Go.RowKit Go.Proofs.YtjgkekgieodhnaaDoor.Mem Go.Proofs.YtjgkekgieodhnaaDoor.Gf Go.Proofs.YtjgkekgieodhnaaDoor.Harn Go.Proofs.YtjgkekgieodhnaaDoor.Mark Go.Proofs.YtjgkekgieodhnaaDoor.GetText Go.Proofs.YtjgkekgieodhnaaDoor.Frm
open Go.Proofs.YtjgkekgieodhnaaDoor.GetNum (Laid)

theorem implL_eq (s : ByteArray) : implL s = (rdFs s (min (gN s 0).1.toNat 6) (gN s 0).2.1).getD [] := by
  unfold implL
  split
  · rename_i h
    rw [show min (gN s 0).1.toNat 6 = 0 by omega]
    simp [rdFs]
  · rfl
theorem rdFs_step (s : ByteArray) (j : Nat) (a : Int) (h : 0 < j) : rdFs s j a = if fOk s a then (rdFs s (j - 1) (fP s a)).map (fF s a :: ·) else none := by
  obtain ⟨i, rfl⟩ : ∃ i, j = i + 1 := ⟨j - 1, by omega⟩
  rfl
theorem fP_bd {s : ByteArray} {a : Int} (h : 0 ≤ a ∧ a ≤ 8000) : 0 ≤ fP s a ∧ fP s a ≤ 8000 := by
  have x1 := gT_spec s a (by omega)
  have x2 := gN_spec s (gT s a).2.1 (by have := x1.ok; omega)
  have x3 := gT_spec s (gN s (gT s a).2.1).2.1 (by have := x2.ok; omega)
  exact x3.ok
/-- what stands while the program reads a tree -/
structure SI (w W : World) (u : Value) (l : List Fl) : Prop where
  bel : Below w.heap.size w W
  size : w.heap.size + 2 ≤ W.heap.size
  out : HasRow W w.heap.size [.slice none 0 0] 24
  tree : HasRow W (w.heap.size + 1) [u] 24
  own : OwnF W (w.heap.size + 2) u l
theorem SI.below {w W W' : World} {u : Value} {l : List Fl} (h : SI w W u l) (hb : Below W.heap.size W W') : SI w W' u l := by
  have := h.size
  have := hb.size
  exact ⟨h.bel.trans (hb.mono (by omega)), by omega, Sha.row_below h.out hb (by omega), Sha.row_below h.tree hb (by omega), h.own.below hb (Nat.le_refl _)⟩
theorem SI.grown {w W W' : World} {u u' : Value} {l l' : List Fl} (h : SI w W u l) (o : Obj) (hg : (W.alloc o).grownBy W' u.ownBlock) (ho : OwnF W' (w.heap.size + 2) u' l') : SI w (W'.setCell ⟨w.heap.size + 1, 0, none⟩ u') u' l' := by
  have hz := h.size
  have hne : ∀ k, k < w.heap.size + 2 → some k ≠ u.ownBlock := fun k hk e => by have := (h.own.lt k e.symm).1; omega
  have hb := h.bel.alloc (by omega) o
  have hz2 := hg.size
  simp at hz2
  have hb2 := hb.grown hg (by simp; omega) (fun j hj => by have := (h.own.lt j hj).1; omega)
  have hT := row_set (row_grown (Sha.row_alloc h.tree o) hg (hne _ (by omega))) 0 u'
  exact ⟨hb2.setCell (by simp only; omega) _, by simp; omega, Sha.row_other (row_grown (Sha.row_alloc h.out o) hg (hne _ (by omega))) _ _ (by simp only; omega), hT, ho.setCell (fun e => by have := (ho.lt _ e).1; simp only at this; omega) _⟩
set_option maxRecDepth 100000 in
set_option maxHeartbeats 1000000 in
theorem readTree_any (s : ByteArray) (w : World) (hL : Laid w) :
    Calls Tryd.prog 14 #[.string s] w fun e w' => ∃ v, e = .returned (.agg #[v]) ∧ OwnF w' w.heap.size v (implL s) ∧ (∀ a n c, v = .slice a n c → n ≤ c) ∧ Below w.heap.size w w' := by
  have x0 := gN_spec s 0 (by omega)
  have J0 : Hid (∀ W, Laid W → Gets 25 s 0 (gN s 0).1 (gN s 0).2.1 (gN s 0).2.2 W) := x0.num.im
  have HP := hidT x0.ok
  have HE := hidT (implL_eq s)
  clear x0
  have HL := hidT hL
  have KR : Hid (∀ (a : Int) W, 0 ≤ a ∧ a ≤ 8000 → Below w.heap.size w W → _) := fun a W ha hb => readFile_any s a ha W (GetNum.laid_below HL.out hb)
  clear hL
  generalize (gN s 0).1 = n at *
  generalize (gN s 0).2.1 = p0 at *
  generalize (gN s 0).2.2 = c0 at *
  obtain ⟨m, hm⟩ : ∃ m, m = min n.toNat 6 := ⟨_, rfl⟩
  rw [← hm] at HE
  have hB0 : Below w.heap.size w ((w.alloc (.cells #[.slice none 0 0] 24)).alloc (.cells #[.slice none 0 0] 24)) := ((Below.refl _ _).alloc (Nat.le_refl _) _).alloc (by simp) _
  have hS0 : SI w ((w.alloc (.cells #[.slice none 0 0] 24)).alloc (.cells #[.slice none 0 0] 24)) (.slice none 0 0) [] :=
    ⟨hB0, by simp, Sha.row_alloc (Sha.row_new w [.slice none 0 0] _) _, Sha.row_new_at (w.alloc (.cells #[.slice none 0 0] 24)) [.slice none 0 0] _ (w.heap.size + 1) (by simp), ownF_nil _ _⟩
  go_enter Tryd.func14, Tryd.ntmps14
  go_wp2_with fail
  refine (J0.out _ (GetNum.laid_below HL.out hB0)).mono ?_
  rintro e w1 ⟨rfl, hb1⟩
  have HS1 := hidT ((hS0.below hb1).below ((Below.refl w1.heap.size w1).alloc (Nat.le_refl _) (.cells #[.int .i64 n, .int .i64 p0, .int .i64 c0] 50)))
  clear hb1 hS0 hB0 J0
  go_wp2
  · go_loopw [5, 16] (fun av i wr => ∃ (k : Nat) (a : Int) (l : List Fl) (u : Value), av = .int .i64 a ∧ i = .int .i64 (k : Nat) ∧ SI w wr u l ∧ l.length = k ∧ k ≤ m ∧ 0 ≤ a ∧ a ≤ 8000 ∧ Hid (rdFs s m p0 = (rdFs s (m - k) a).map (l ++ ·))) (fun _ i _ => m - (intOf i).toNat)
    case atStart =>
      refine ⟨0, p0, [], .slice none 0 0, rfl, rfl, HS1.out, rfl, by omega, HP.out.1, HP.out.2, ?_⟩
      simp [Hid]
    case round =>
      clear HS1
      obtain ⟨_, a, l, u, rfl, rfl, hss, rfl, hkm, ha0, ha8, HX⟩ := hrel
      by_cases hk : l.length < m
      · have ht : (l.length : Int) < 6 := by omega
        have K1 := hidT (KR.out a wr ⟨ha0, ha8⟩ hss.bel)
        have HPP := hidT (fP_bd (s := s) ⟨ha0, ha8⟩)
        have HS := hidT hss
        have HM := hidT hm
        have HK := hidT hk
        have HR := hidT (rdFs_step s (m - l.length) a (by omega))
        clear hss hm hk
        generalize fF s a = f at *
        generalize fP s a = p at *
        generalize fOk s a = b at *
        obtain ⟨t1, n2, t3⟩ := f
        go_wp2_with fail
        refine (K1.out).mono ?_
        rintro e w2 ⟨rfl, hb2⟩
        have hs2 := HS.out.below hb2
        have hf5 := Sha.row_new w2 [.string t1, .int .i64 n2, .string t3] 38
        have hs5 := hs2.below ((Below.refl w2.heap.size w2).alloc (Nat.le_refl _) (.cells #[.string t1, .int .i64 n2, .string t3] 38))
        obtain ⟨W5, hW5⟩ : ∃ W5, W5 = w2.alloc (.cells #[.string t1, .int .i64 n2, .string t3] 38) := ⟨_, rfl⟩
        change HasRow (w2.alloc (.cells #[.string t1, .int .i64 n2, .string t3] 38)) _ _ _ at hf5
        rw [← hW5] at hs5 hf5
        have hX := hW5.symm
        have HS5 := hidT hs5
        have m0 : W5.cell? ⟨w2.heap.size, 0, none⟩ = some (.string t1) := Mem.cell_of_row hf5 0
        have m1 : W5.cell? ⟨w2.heap.size, 1, none⟩ = some (.int .i64 n2) := Mem.cell_of_row hf5 1
        have m2 : W5.cell? ⟨w2.heap.size, 2, none⟩ = some (.string t3) := Mem.cell_of_row hf5 2
        have q0 : W5.cell? ⟨w.heap.size + 1, 0, none⟩ = some u := Mem.cell_of_row hs5.tree 0
        have qf := Mem.frozen_of_row hs5.tree
        have o0 : W5.cell? ⟨w.heap.size, 0, none⟩ = some (.slice none 0 0) := Mem.cell_of_row hs5.out 0
        have of0 := Mem.frozen_of_row hs5.out 0
        clear hb2 hs2 hf5 hs5 hW5 HS K1
        cases b
        · go_wp2
          exact bodyPost_ret (v := .agg #[.slice none 0 0]) (by simp [results, Tryd.results14, go_sem, o0]) rfl ⟨_, rfl, by
            rw [HE.out, HX.out, HR.out]; exact ownF_nil _ _, (fun _ _ _ h => by injection h; omega), HS5.out.bel.setCell (p := ⟨w.heap.size, 0, none⟩) (Nat.le_refl _) _⟩
        · clear o0 of0
          have hsz := HS5.out.size
          have hlm : l.length ≤ 1000000 := by have := HK.out; have := HM.out; omega
          have hw : IntKind.i64.wrap ((l.length : Int) + 1) = (l.length : Int) + 1 := IntWalk.i64_in _ ⟨by have := HK.out; have := HM.out; omega, by have := HK.out; have := HM.out; omega⟩
          go_wp2_with (at_builtin; refine wp_file (by rfl) _ _ (by rfl) (w.heap.size + 2) W5.heap.size u l ⟨t1, n2, t3⟩ (by rfl) (by rfl) (HS5.out.own.below ((Below.refl _ _).alloc (Nat.le_refl _) _) (Nat.le_refl _)) (by simp; omega) (Mem.cell_of_row (Sha.row_new_at W5 [.string t1, .int .i64 n2, .string t3] 38 W5.heap.size (by simp)) 0) (Mem.cell_of_row (Sha.row_new_at W5 [.string t1, .int .i64 n2, .string t3] 38 W5.heap.size (by simp)) 1) (Mem.cell_of_row (Sha.row_new_at W5 [.string t1, .int .i64 n2, .string t3] 38 W5.heap.size (by simp)) 2) (by omega) ?_; intro g6 c6 w6 ho6 hg6; have HSN := hidT (HS5.out.grown _ hg6 ho6); have hT6 : HasRow w6 (w.heap.size + 1) [u] 24 := row_grown (Sha.row_alloc HS5.out.tree _) hg6 (fun e => by have := (HS5.out.own.lt _ e.symm).1; omega); have e0 : w6.cell? ⟨w.heap.size + 1, 0, none⟩ = some u := Mem.cell_of_row hT6 0; have ef := Mem.frozen_of_row hT6; clear ho6 hg6 hT6)
          have := HK.out
          refine ⟨⟨l.length + 1, p, l ++ [⟨t1, n2, t3⟩], _, rfl, by simp, HSN.out, by simp, by omega, HPP.out.1, HPP.out.2, ?_⟩, by simp [intOf]; omega⟩
          show _ = _
          rw [HX.out, HR.out, show m - (l.length + 1) = m - l.length - 1 by omega]
          simp only [if_true, Option.map_map]
          congr 1
          funext x
          simp
      · have ht : ¬ (l.length : Int) < 6 := by omega
        obtain rfl : m = l.length := by omega
        have hE := HE.out
        rw [HX.out, Nat.sub_self] at hE
        have hl : implL s = l := by rw [hE]; simp [rdFs]
        have HLL := hidT hl
        have t0 : wr.cell? ⟨w.heap.size + 1, 0, none⟩ = some u := Mem.cell_of_row hss.tree 0
        have o0 : wr.cell? ⟨w.heap.size, 0, none⟩ = some (.slice none 0 0) := Mem.cell_of_row hss.out 0
        have of0 := Mem.frozen_of_row hss.out 0
        have HS := hidT hss
        have HMK := hidT hss.own.mk
        clear hss hE hl HE HX
        obtain ⟨ad, nn, cc, rfl⟩ : ∃ ad n c, u = .slice ad n c := by
          rcases HMK.out with ⟨g, c, h, _⟩ | ⟨h, _⟩
          · exact ⟨_, _, _, h⟩
          · exact ⟨_, _, _, h⟩
        go_wp2
        exact bodyPost_ret (v := .agg #[.slice ad nn cc]) (by simp [results, Tryd.results14, go_sem, o0]) rfl ⟨_, rfl, by
          rw [HLL.out]
          exact (HS.out.own.setCell (a := ⟨w.heap.size, 0, none⟩) (fun e => by have := (HS.out.own.lt _ e).1; simp only at this; omega) _).same (fun _ _ => rfl) (by omega), HS.out.own.cap, HS.out.bel.setCell (p := ⟨w.heap.size, 0, none⟩) (Nat.le_refl _) _⟩
  · go_loopw [5, 16] (fun av i wr => ∃ (k : Nat) (a : Int) (l : List Fl) (u : Value), av = .int .i64 a ∧ i = .int .i64 (k : Nat) ∧ SI w wr u l ∧ l.length = k ∧ k ≤ m ∧ 0 ≤ a ∧ a ≤ 8000 ∧ Hid (rdFs s m p0 = (rdFs s (m - k) a).map (l ++ ·))) (fun _ i _ => m - (intOf i).toNat)
    case atStart =>
      refine ⟨0, p0, [], .slice none 0 0, rfl, rfl, HS1.out, rfl, by omega, HP.out.1, HP.out.2, ?_⟩
      simp [Hid]
    case round =>
      clear HS1
      obtain ⟨_, a, l, u, rfl, rfl, hss, rfl, hkm, ha0, ha8, HX⟩ := hrel
      by_cases hk : l.length < m
      · have ht : (l.length : Int) < n := by omega
        have K1 := hidT (KR.out a wr ⟨ha0, ha8⟩ hss.bel)
        have HPP := hidT (fP_bd (s := s) ⟨ha0, ha8⟩)
        have HS := hidT hss
        have HM := hidT hm
        have HK := hidT hk
        have HR := hidT (rdFs_step s (m - l.length) a (by omega))
        clear hss hm hk
        generalize fF s a = f at *
        generalize fP s a = p at *
        generalize fOk s a = b at *
        obtain ⟨t1, n2, t3⟩ := f
        go_wp2_with fail
        refine (K1.out).mono ?_
        rintro e w2 ⟨rfl, hb2⟩
        have hs2 := HS.out.below hb2
        have hf5 := Sha.row_new w2 [.string t1, .int .i64 n2, .string t3] 38
        have hs5 := hs2.below ((Below.refl w2.heap.size w2).alloc (Nat.le_refl _) (.cells #[.string t1, .int .i64 n2, .string t3] 38))
        obtain ⟨W5, hW5⟩ : ∃ W5, W5 = w2.alloc (.cells #[.string t1, .int .i64 n2, .string t3] 38) := ⟨_, rfl⟩
        change HasRow (w2.alloc (.cells #[.string t1, .int .i64 n2, .string t3] 38)) _ _ _ at hf5
        rw [← hW5] at hs5 hf5
        have hX := hW5.symm
        have HS5 := hidT hs5
        have m0 : W5.cell? ⟨w2.heap.size, 0, none⟩ = some (.string t1) := Mem.cell_of_row hf5 0
        have m1 : W5.cell? ⟨w2.heap.size, 1, none⟩ = some (.int .i64 n2) := Mem.cell_of_row hf5 1
        have m2 : W5.cell? ⟨w2.heap.size, 2, none⟩ = some (.string t3) := Mem.cell_of_row hf5 2
        have q0 : W5.cell? ⟨w.heap.size + 1, 0, none⟩ = some u := Mem.cell_of_row hs5.tree 0
        have qf := Mem.frozen_of_row hs5.tree
        have o0 : W5.cell? ⟨w.heap.size, 0, none⟩ = some (.slice none 0 0) := Mem.cell_of_row hs5.out 0
        have of0 := Mem.frozen_of_row hs5.out 0
        clear hb2 hs2 hf5 hs5 hW5 HS K1
        cases b
        · go_wp2
          exact bodyPost_ret (v := .agg #[.slice none 0 0]) (by simp [results, Tryd.results14, go_sem, o0]) rfl ⟨_, rfl, by
            rw [HE.out, HX.out, HR.out]; exact ownF_nil _ _, (fun _ _ _ h => by injection h; omega), HS5.out.bel.setCell (p := ⟨w.heap.size, 0, none⟩) (Nat.le_refl _) _⟩
        · clear o0 of0
          have hsz := HS5.out.size
          have hlm : l.length ≤ 1000000 := by have := HK.out; have := HM.out; omega
          have hw : IntKind.i64.wrap ((l.length : Int) + 1) = (l.length : Int) + 1 := IntWalk.i64_in _ ⟨by have := HK.out; have := HM.out; omega, by have := HK.out; have := HM.out; omega⟩
          go_wp2_with (at_builtin; refine wp_file (by rfl) _ _ (by rfl) (w.heap.size + 2) W5.heap.size u l ⟨t1, n2, t3⟩ (by rfl) (by rfl) (HS5.out.own.below ((Below.refl _ _).alloc (Nat.le_refl _) _) (Nat.le_refl _)) (by simp; omega) (Mem.cell_of_row (Sha.row_new_at W5 [.string t1, .int .i64 n2, .string t3] 38 W5.heap.size (by simp)) 0) (Mem.cell_of_row (Sha.row_new_at W5 [.string t1, .int .i64 n2, .string t3] 38 W5.heap.size (by simp)) 1) (Mem.cell_of_row (Sha.row_new_at W5 [.string t1, .int .i64 n2, .string t3] 38 W5.heap.size (by simp)) 2) (by omega) ?_; intro g6 c6 w6 ho6 hg6; have HSN := hidT (HS5.out.grown _ hg6 ho6); have hT6 : HasRow w6 (w.heap.size + 1) [u] 24 := row_grown (Sha.row_alloc HS5.out.tree _) hg6 (fun e => by have := (HS5.out.own.lt _ e.symm).1; omega); have e0 : w6.cell? ⟨w.heap.size + 1, 0, none⟩ = some u := Mem.cell_of_row hT6 0; have ef := Mem.frozen_of_row hT6; clear ho6 hg6 hT6)
          have := HK.out
          refine ⟨⟨l.length + 1, p, l ++ [⟨t1, n2, t3⟩], _, rfl, by simp, HSN.out, by simp, by omega, HPP.out.1, HPP.out.2, ?_⟩, by simp [intOf]; omega⟩
          show _ = _
          rw [HX.out, HR.out, show m - (l.length + 1) = m - l.length - 1 by omega]
          simp only [if_true, Option.map_map]
          congr 1
          funext x
          simp
      · have ht : ¬ (l.length : Int) < n := by omega
        obtain rfl : m = l.length := by omega
        have hE := HE.out
        rw [HX.out, Nat.sub_self] at hE
        have hl : implL s = l := by rw [hE]; simp [rdFs]
        have HLL := hidT hl
        have t0 : wr.cell? ⟨w.heap.size + 1, 0, none⟩ = some u := Mem.cell_of_row hss.tree 0
        have o0 : wr.cell? ⟨w.heap.size, 0, none⟩ = some (.slice none 0 0) := Mem.cell_of_row hss.out 0
        have of0 := Mem.frozen_of_row hss.out 0
        have HS := hidT hss
        have HMK := hidT hss.own.mk
        clear hss hE hl HE HX
        obtain ⟨ad, nn, cc, rfl⟩ : ∃ ad n c, u = .slice ad n c := by
          rcases HMK.out with ⟨g, c, h, _⟩ | ⟨h, _⟩
          · exact ⟨_, _, _, h⟩
          · exact ⟨_, _, _, h⟩
        go_wp2
        exact bodyPost_ret (v := .agg #[.slice ad nn cc]) (by simp [results, Tryd.results14, go_sem, o0]) rfl ⟨_, rfl, by
          rw [HLL.out]
          exact (HS.out.own.setCell (a := ⟨w.heap.size, 0, none⟩) (fun e => by have := (HS.out.own.lt _ e).1; simp only at this; omega) _).same (fun _ _ => rfl) (by omega), HS.out.own.cap, HS.out.bel.setCell (p := ⟨w.heap.size, 0, none⟩) (Nat.le_refl _) _⟩
end Go.Proofs.YtjgkekgieodhnaaDoor.Tre
