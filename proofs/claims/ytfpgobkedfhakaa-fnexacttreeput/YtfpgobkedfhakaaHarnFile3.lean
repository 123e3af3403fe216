/- Lists of files and trees, marked and held by the laws' own functions. -/
import Derived.Test.YtfpgobkedfhakaaHarnTree
import Derived.Deep.RegionHeld3
import Derived.Test.YtfpgobkedfhakaaCutCall
namespace Go.Proofs.Ytfpgobkedfhakaa.Tre
open Go.RowKit Go.Proofs.Ytfpgobkedfhakaa.Mem Go.Proofs.Ytfpgobkedfhakaa.Mark Go.Proofs.Ytfpgobkedfhakaa.Harn

def marksF (k n : Nat) : List Fl := (List.range n).map fun i => ⟨markB (k + 3 * i), ((k + 3 * i + 1 : Nat) : Int), markB (k + 3 * i + 2)⟩
theorem length_marksF (k n : Nat) : (marksF k n).length = n := by simp [marksF]
def markFTo (l : List Fl) (k i : Nat) : List Fl := marksF k i ++ l.drop i
theorem length_markFTo (l : List Fl) (k i : Nat) (h : i ≤ l.length) : (markFTo l k i).length = l.length := by simp [markFTo, length_marksF]; omega
theorem markFTo_start (l : List Fl) (k : Nat) : markFTo l k 0 = l := by simp [markFTo, marksF]
theorem markFTo_end (l : List Fl) (k : Nat) : markFTo l k l.length = marksF k l.length := by simp [markFTo]
theorem markFTo_set (l : List Fl) (k i : Nat) (h : i < l.length) : (markFTo l k i).set i ⟨markB (k + 3 * i), ((k + 3 * i + 1 : Nat) : Int), markB (k + 3 * i + 2)⟩ = markFTo l k (i + 1) := by
  have hl := length_marksF k i
  unfold markFTo
  rw [List.set_append_right _ _ (by omega), hl, Nat.sub_self, List.drop_eq_getElem_cons h, List.set_cons_zero]
  simp [marksF, List.range_succ]

set_option maxRecDepth 100000 in
set_option maxHeartbeats 1000000 in
theorem markFiles_any (g o c k : Nat) (l : List Fl) (w : World) (h : FilesAt w g o l) (hn : l.length ≤ 1100000) (hk : k ≤ 100000000) :
    Calls Try.prog 53 #[.slice (some ⟨g, o, none⟩) l.length c, .int .i64 (k : Int)] w fun e w' => e = .returned (.int .i64 ((k + 3 * l.length : Nat) : Int)) ∧ FilesAt w' g o (marksF k l.length) ∧ w.grownBy w' (some g) := by
  have HS : Hid (FilesAt w g o l) := h
  clear h
  go_enter Try.func53, Try.ntmps53
  go_wp2
  go_loopw [1, 5] (fun kk i wr => ∃ j : Nat, j ≤ l.length ∧ i = .int .i64 j ∧ kk = .int .i64 ((k + 3 * j : Nat) : Int) ∧ FilesAt wr g o (markFTo l k j) ∧ w.grownBy wr (some g)) (fun _ i _ => l.length - (intOf i).toNat)
  case atStart => exact ⟨0, by omega, rfl, rfl, by rw [markFTo_start]; exact HS.out, ⟨rfl, rfl, rfl, Nat.le_refl _, fun _ _ _ => rfl⟩⟩
  case round =>
    clear HS
    obtain ⟨j, hj, rfl, rfl, hst, hgr⟩ := hrel
    by_cases hlt : j < l.length
    · have hlm := length_markFTo l k j hj
      have HST : Hid (FilesAt wr g o (markFTo l k j)) := hst
      obtain ⟨⟨c1, c2, c3⟩, f1, f2, f3⟩ := hst j (by omega)
      have hgl := World.block_lt_of_cell? wr _ c1
      simp only at hgl
      have HM1 : Hid (∀ W, Calls Try.prog 65 #[.int .i64 ((k : Int) + 3 * (j : Int))] W fun e w' => e = .returned (.string (markB (k + 3 * j))) ∧ Below W.heap.size W w') := fun W => markText_any (k + 3 * j) W (by omega)
      have HM2 : Hid (∀ W, Calls Try.prog 65 #[.int .i64 ((k : Int) + 3 * (j : Int) + 1 + 1)] W fun e w' => e = .returned (.string (markB (k + 3 * j + 2))) ∧ Below W.heap.size W w') := fun W => by
        have := markText_any (k + 3 * j + 2) W (by omega)
        rw [show ((k + 3 * j + 2 : Nat) : Int) = (k : Int) + 3 * (j : Int) + 1 + 1 by omega] at this
        exact this
      have HE : Hid ((markFTo l k j).set j ⟨markB (k + 3 * j), ((k + 3 * j + 1 : Nat) : Int), markB (k + 3 * j + 2)⟩ = markFTo l k (j + 1)) := markFTo_set l k j hlt
      generalize markB (k + 3 * j) = t1 at *
      generalize markB (k + 3 * j + 2) = t2 at *
      have p1 : (j : Int) < (l.length : Int) := by omega
      have hsz0 := hgr.size
      clear hst
      go_wp2_with fail
      refine (HM1.out _).mono ?_
      rintro e w1 ⟨rfl, hb1⟩
      have e1 := (hb1.cell (p := ⟨g, o + j * 3, none⟩) hgl).trans c1
      have e2 := (hb1.cell (p := ⟨g, o + j * 3 + 1, none⟩) hgl).trans c2
      have e3 := (hb1.cell (p := ⟨g, o + j * 3 + 2, none⟩) hgl).trans c3
      have f4 := (hb1.frozen (p := ⟨g, o + j * 3, none⟩) hgl).trans f1
      have f5 := (hb1.frozen (p := ⟨g, o + j * 3 + 1, none⟩) hgl).trans f2
      have f6 := (hb1.frozen (p := ⟨g, o + j * 3 + 2, none⟩) hgl).trans f3
      have HST1 := hidH (FilesAt.below HST.out hb1)
      have HG1 : Hid (w.grownBy w1 (some g)) := ⟨hb1.os.trans hgr.os, hb1.tape.trans hgr.tape, hb1.output.trans hgr.output, by have := hb1.size; omega, fun q hq hne => by rw [hb1.block q (by omega), hgr.block q hq hne]⟩
      have hgl1 : g < w1.heap.size := Nat.lt_of_lt_of_le hgl hb1.size
      have hz1 : wr.heap.size ≤ w1.heap.size := hb1.size
      clear hb1 c1 c2 c3 f1 f2 f3 HST
      go_wp2_with fail
      have S2 : Hid (FilesAt ((w1.setCell ⟨g, o + j * 3, none⟩ (.string t1)).setCell ⟨g, o + j * 3 + 1, none⟩ (.int .i64 ((k : Int) + 3 * (j : Int) + 1))) g o ((markFTo l k j).set j ⟨t1, (k : Int) + 3 * (j : Int) + 1, (markFTo l k j)[j].d⟩)) := by
        unfold Hid
        have h1 := HST1.out.set0 (i := j) (by omega) t1
        have h2 := h1.set1 (i := j) (by simp; omega) ((k : Int) + 3 * (j : Int) + 1)
        simpa using h2
      have HG2 : Hid (w.grownBy ((w1.setCell ⟨g, o + j * 3, none⟩ (.string t1)).setCell ⟨g, o + j * 3 + 1, none⟩ (.int .i64 ((k : Int) + 3 * (j : Int) + 1))) (some g)) := by
        have hg := HG1.out
        refine ⟨hg.os, hg.tape, hg.output, by simpa using hg.size, fun q hq hne => ?_⟩
        rw [Below.heap_setCell _ _ _ q (by simpa using hne), Below.heap_setCell _ _ _ q (by simpa using hne), hg.block q hq hne]
      have e7 : ((w1.setCell ⟨g, o + j * 3, none⟩ (.string t1)).setCell ⟨g, o + j * 3 + 1, none⟩ (.int .i64 ((k : Int) + 3 * (j : Int) + 1))).cell? ⟨g, o + j * 3 + 2, none⟩ = some (.string (markFTo l k j)[j].d) := by
        rw [World.cell?_setCell_other _ _ _ _ (fst_ne (by omega)), World.cell?_setCell_other _ _ _ _ (fst_ne (by omega))]; exact e3
      have f7 : ((w1.setCell ⟨g, o + j * 3, none⟩ (.string t1)).setCell ⟨g, o + j * 3 + 1, none⟩ (.int .i64 ((k : Int) + 3 * (j : Int) + 1))).frozen? ⟨g, o + j * 3 + 2, none⟩ = false := by simpa using f6
      have hgl2 : g < ((w1.setCell ⟨g, o + j * 3, none⟩ (.string t1)).setCell ⟨g, o + j * 3 + 1, none⟩ (.int .i64 ((k : Int) + 3 * (j : Int) + 1))).heap.size := by simpa using hgl1
      have hsz2 : w.heap.size ≤ ((w1.setCell ⟨g, o + j * 3, none⟩ (.string t1)).setCell ⟨g, o + j * 3 + 1, none⟩ (.int .i64 ((k : Int) + 3 * (j : Int) + 1))).heap.size := by simp; omega
      generalize hW2 : (w1.setCell ⟨g, o + j * 3, none⟩ (.string t1)).setCell ⟨g, o + j * 3 + 1, none⟩ (.int .i64 ((k : Int) + 3 * (j : Int) + 1)) = W2 at *
      clear hW2 e1 e2 e3 f4 f5 f6 HST1 HG1
      refine (HM2.out _).mono ?_
      rintro e w3 ⟨rfl, hb3⟩
      have e8 := (hb3.cell (p := ⟨g, o + j * 3 + 2, none⟩) hgl2).trans e7
      have f8 := (hb3.frozen (p := ⟨g, o + j * 3 + 2, none⟩) hgl2).trans f7
      have S3 : Hid (FilesAt (w3.setCell ⟨g, o + j * 3 + 2, none⟩ (.string t2)) g o (markFTo l k (j + 1))) := by
        unfold Hid
        have h1 := (FilesAt.below S2.out hb3).set2 (i := j) (by simp; omega) t2
        rw [← HE.out]
        have e9 : ((k + 3 * j + 1 : Nat) : Int) = (k : Int) + 3 * (j : Int) + 1 := by omega
        rw [e9]
        simpa using h1
      have HG3 : Hid (w.grownBy (w3.setCell ⟨g, o + j * 3 + 2, none⟩ (.string t2)) (some g)) := by
        have hg := HG2.out
        refine ⟨hb3.os.trans hg.os, hb3.tape.trans hg.tape, hb3.output.trans hg.output, by have := hb3.size; simp; omega, fun q hq hne => ?_⟩
        rw [Below.heap_setCell _ _ _ q (by simpa using hne), hb3.block q (by omega), hg.block q hq hne]
      clear hb3 e7 f7 S2 HG2 HE HM1 HM2
      go_wp2
      go_roundw
      case rel => exact ⟨j + 1, by omega, by go_num, by congr 1 <;> omega, S3.out, HG3.out⟩
      case measure => simp [intOf]; omega
    · have e : j = l.length := by omega
      subst e
      rw [markFTo_end] at hst
      have HST : Hid _ := hst
      clear hst
      go_wp2
      go_ret
      exact ⟨by congr 2, HST.out, hgr⟩

set_option maxRecDepth 100000 in
set_option maxHeartbeats 1000000 in
theorem heldFiles_any (v : Value) (k n : Nat) (w : World) (h : Files w v (marksF k n)) (hn : n ≤ 1100000) (hk : k ≤ 100000000) :
    Calls Try.prog 94 #[v, .int .i64 (k : Int)] w fun e w' => e = .returned (.int .i64 ((k + 3 * n : Nat) : Int)) ∧ Below w.heap.size w w' := by
  obtain ⟨a, cap, rfl, hc⟩ := h
  rw [length_marksF]
  have HC : Hid (∀ j (h : j < n), ∃ b o, a = some ⟨b, o, none⟩ ∧ w.cell? ⟨b, o + j * 3, none⟩ = some (.string (markB (k + 3 * j))) ∧ w.cell? ⟨b, o + j * 3 + 1, none⟩ = some (.int .i64 ((k : Int) + 3 * (j : Int) + 1)) ∧ w.cell? ⟨b, o + j * 3 + 2, none⟩ = some (.string (markB (k + 3 * j + 2)))) := fun j hj => by
    obtain ⟨b, o, h1, h2, h3, h4⟩ := hc j (by rw [length_marksF]; exact hj)
    refine ⟨b, o, h1, ?_, ?_, ?_⟩
    · rw [h2]; simp [marksF]
    · rw [h3]; simp [marksF]
    · rw [h4]; simp [marksF]
  clear hc
  go_enter Try.func94, Try.ntmps94
  go_wp2
  go_loopw [1, 5] (fun kk i wr => ∃ j : Nat, j ≤ n ∧ i = .int .i64 j ∧ kk = .int .i64 ((k + 3 * j : Nat) : Int) ∧ Below w.heap.size w wr) (fun _ i _ => n - (intOf i).toNat)
  case atStart => exact ⟨0, by omega, rfl, rfl, Below.refl _ _⟩
  case round =>
    obtain ⟨j, hj, rfl, rfl, hbel⟩ := hrel
    by_cases hlt : j < n
    · obtain ⟨b, o, rfl, d1, d2, d3⟩ := HC.out j hlt
      have c1 : wr.cell? ⟨b, o + j * 3, none⟩ = _ := (hbel.cell (World.block_lt_of_cell? w _ d1)).trans d1
      have c2 : wr.cell? ⟨b, o + j * 3 + 1, none⟩ = _ := (hbel.cell (World.block_lt_of_cell? w _ d2)).trans d2
      have c3 : wr.cell? ⟨b, o + j * 3 + 2, none⟩ = _ := (hbel.cell (World.block_lt_of_cell? w _ d3)).trans d3
      have hbl := World.block_lt_of_cell? wr _ c1
      simp only at hbl
      have HM1 : Hid (∀ W, Calls Try.prog 65 #[.int .i64 ((k : Int) + 3 * (j : Int))] W fun e w' => e = .returned (.string (markB (k + 3 * j))) ∧ Below W.heap.size W w') := fun W => markText_any (k + 3 * j) W (by omega)
      have HM2 : Hid (∀ W, Calls Try.prog 65 #[.int .i64 ((k : Int) + 3 * (j : Int) + 1 + 1)] W fun e w' => e = .returned (.string (markB (k + 3 * j + 2))) ∧ Below W.heap.size W w') := fun W => by
        have := markText_any (k + 3 * j + 2) W (by omega)
        rw [show ((k + 3 * j + 2 : Nat) : Int) = (k : Int) + 3 * (j : Int) + 1 + 1 by omega] at this
        exact this
      generalize markB (k + 3 * j) = t1 at *
      generalize markB (k + 3 * j + 2) = t2 at *
      have p1 : (j : Int) < (n : Int) := by omega
      have p0 : (0 : Int) ≤ (j : Int) := by omega
      have HB : Hid (Below w.heap.size w wr) := hbel
      clear hbel d1 d2 d3
      go_wp2_with fail
      go_region_held3 (fun W => W.cell? ⟨b, o + j * 3, none⟩ = some (.string t1) ∧ W.cell? ⟨b, o + j * 3 + 1, none⟩ = some (.int .i64 ((k : Int) + 3 * (j : Int) + 1)) ∧ W.cell? ⟨b, o + j * 3 + 2, none⟩ = some (.string t2))
        (first
          | go_keep
          | (exact kQ))
        ((go_at_call 65; refine (HM1.out _).mono ?_; rintro e w1 ⟨rfl, hb1⟩; have kQ : w1.cell? ⟨b, o + j * 3, none⟩ = some (.string t1) ∧ w1.cell? ⟨b, o + j * 3 + 1, none⟩ = some (.int .i64 ((k : Int) + 3 * (j : Int) + 1)) ∧ w1.cell? ⟨b, o + j * 3 + 2, none⟩ = some (.string t2) := ⟨(hb1.cell (p := ⟨b, o + j * 3, none⟩) hbl).trans c1, (hb1.cell (p := ⟨b, o + j * 3 + 1, none⟩) hbl).trans c2, (hb1.cell (p := ⟨b, o + j * 3 + 2, none⟩) hbl).trans c3⟩; have HB1 := hidH (HB.out.drew.trans (hb1.mono HB.out.size)); have hbl1 : b < w1.heap.size := Nat.lt_of_lt_of_le hbl hb1.size; simp only [CutCall.shut_cut] at *))
      unfold Hid
      refine wpAnyH_take (i := 7) (v := ?_) rfl (by kernel_rfl) (by kernel_rfl) (by kernel_rfl) (fun _ _ _ h => h) (Or.inl ⟨by rfl, ?_⟩) kQ ?_
      rotate_left
      · (intro w9 hS9; (try dsimp only at hS9); go_simp; (try with_reducible rfl))
      simp only [List.getElem_toArray, List.getElem_cons_succ, List.getElem_cons_zero, Act.put, List.setIfInBounds_toArray, List.set_cons_zero, List.set_cons_succ]
      refine wpAnyH_done (by kernel_rfl) ?_ _
      refine NoPanic.normal ?_
      obtain ⟨c4, c5, c6⟩ := kQ
      clear c1 c2 c3
      go_wp2_with fail
      go_region_held3 (fun W => W.cell? ⟨b, o + j * 3, none⟩ = some (.string t1) ∧ W.cell? ⟨b, o + j * 3 + 1, none⟩ = some (.int .i64 ((k : Int) + 3 * (j : Int) + 1)) ∧ W.cell? ⟨b, o + j * 3 + 2, none⟩ = some (.string t2))
        (first
          | go_keep
          | (exact kR))
        ((go_at_call 65; refine (HM2.out _).mono ?_; rintro e w2 ⟨rfl, hb2⟩; have kR : w2.cell? ⟨b, o + j * 3, none⟩ = some (.string t1) ∧ w2.cell? ⟨b, o + j * 3 + 1, none⟩ = some (.int .i64 ((k : Int) + 3 * (j : Int) + 1)) ∧ w2.cell? ⟨b, o + j * 3 + 2, none⟩ = some (.string t2) := ⟨(hb2.cell (p := ⟨b, o + j * 3, none⟩) hbl1).trans c4, (hb2.cell (p := ⟨b, o + j * 3 + 1, none⟩) hbl1).trans c5, (hb2.cell (p := ⟨b, o + j * 3 + 2, none⟩) hbl1).trans c6⟩; have HB2 := hidH (HB1.out.drew.trans (hb2.mono HB1.out.size)); simp only [CutCall.shut_cut] at *))
      unfold Hid
      refine wpAnyH_take (i := 7) (v := ?_) rfl (by kernel_rfl) (by kernel_rfl) (by kernel_rfl) (fun _ _ _ h => h) (Or.inl ⟨by rfl, ?_⟩) kR ?_
      rotate_left
      · (intro w9 hS9; (try dsimp only at hS9); go_simp; (try with_reducible rfl))
      simp only [List.getElem_toArray, List.getElem_cons_succ, List.getElem_cons_zero, Act.put, List.setIfInBounds_toArray, List.set_cons_zero, List.set_cons_succ]
      refine wpAnyH_done (by kernel_rfl) ?_ _
      refine NoPanic.normal ?_
      clear c4 c5 c6 kR hb1 hb2
      go_wp2
      go_roundw
      case rel => exact ⟨j + 1, by omega, by go_num, by congr 1 <;> omega, HB2.out⟩
      case measure => simp [intOf]; omega
    · have e : j = n := by omega
      subst e
      go_wp2
      go_ret
      exact ⟨by congr 2, hbel⟩
theorem grown_alloc {w w' : World} {g : Nat} {o : Obj} (h : (w.alloc o).grownBy w' (some g)) : w.grownBy w' (some g) :=
  ⟨h.os, h.tape, h.output, by have := h.size; simp at this; omega, fun q hq hne => by
    rw [h.block q (by simp; omega) hne]
    have hb : Below w.heap.size w (w.alloc o) := (Below.refl _ _).alloc (Nat.le_refl _) _
    exact hb.block q hq⟩
theorem markTree_any (g o c k : Nat) (l : List Fl) (w : World) (h : FilesAt w g o l) (hn : l.length ≤ 1100000) (hk : k ≤ 100000000) :
    Calls Try.prog 17 #[.agg #[.slice (some ⟨g, o, none⟩) l.length c], .int .i64 (k : Int)] w fun e w' => e = .returned (.int .i64 ((k + 3 * l.length : Nat) : Int)) ∧ FilesAt w' g o (marksF k l.length) ∧ w.grownBy w' (some g) := by
  have K := hidH (fun W hW => markFiles_any g o c k l W hW hn hk)
  have HF := hidH h
  clear h hn hk
  generalize ((k + 3 * l.length : Nat) : Int) = z at *
  go_enter Try.func17, Try.ntmps17
  go_wp2_with fail
  refine (K.out _ (FilesAt.below HF.out ((Below.refl _ _).alloc (Nat.le_refl _) _))).mono ?_
  rintro e w1 ⟨rfl, hf1, hg1⟩
  have HF1 := hidH hf1
  have HG1 := hidH (grown_alloc hg1)
  clear hf1 hg1
  go_wp2
  go_ret
  exact ⟨rfl, HF1.out, HG1.out⟩
theorem markTree_nil (k : Nat) (w : World) (_ : k ≤ 100000000) :
    Calls Try.prog 17 #[.agg #[.slice none 0 0], .int .i64 (k : Int)] w fun e w' => e = .returned (.int .i64 (k : Int)) ∧ Below w.heap.size w w' := by
  have K : Hid (∀ W, Calls Try.prog 53 #[.slice none 0 0, .int .i64 (k : Int)] W fun e w' => e = .returned (.int .i64 (k : Int)) ∧ Below W.heap.size W w') := fun W => by
    go_enter Try.func53, Try.ntmps53
    go_wp2
    go_loopw [1, 5] (fun kk i wr => i = .int .i64 0 ∧ kk = .int .i64 (k : Int) ∧ wr = W) (fun _ _ _ => 0)
    case atStart => exact ⟨rfl, rfl, rfl⟩
    case round =>
      obtain ⟨rfl, rfl, rfl⟩ := hrel
      go_wp2
      go_ret
      exact ⟨rfl, Below.refl _ _⟩
  go_enter Try.func17, Try.ntmps17
  go_wp2_with fail
  refine (K.out _).mono ?_
  rintro e w1 ⟨rfl, hb1⟩
  go_wp2
  go_ret
  exact ⟨rfl, bstep ((Below.refl _ _).alloc (Nat.le_refl _) _) hb1⟩
theorem heldTree_any (v : Value) (k n : Nat) (w : World) (h : Files w v (marksF k n)) (hn : n ≤ 1100000) (hk : k ≤ 100000000) :
    Calls Try.prog 54 #[.agg #[v], .int .i64 (k : Int)] w fun e w' => e = .returned (.int .i64 ((k + 3 * n : Nat) : Int)) ∧ Below w.heap.size w w' := by
  have K := hidH (fun W hW => heldFiles_any v k n W hW hn hk)
  have HF := hidH h
  have hz : ¬ ((k + 3 * n : Nat) : Int) < 0 := by omega
  clear h hn hk
  generalize ((k + 3 * n : Nat) : Int) = z at *
  go_enter Try.func54, Try.ntmps54
  go_wp2_with fail
  refine (K.out _ (Files.below HF.out ((Below.refl _ _).alloc (Nat.le_refl _) _))).mono ?_
  rintro e w1 ⟨rfl, hb1⟩
  go_wp2
  go_ret
  exact ⟨rfl, bstep ((Below.refl _ _).alloc (Nat.le_refl _) _) hb1⟩
/-- A list of files in memory that may be written: in a row, or nil. -/
def Mk (W : World) (v : Value) (l : List Fl) : Prop := (∃ g c, v = .slice (some ⟨g, 0, none⟩) l.length c ∧ FilesAt W g 0 l) ∨ (v = .slice none 0 0 ∧ l = [])
theorem Mk.files {W : World} {v : Value} {l : List Fl} (h : Mk W v l) : Files W v l := by
  rcases h with ⟨g, c, rfl, h⟩ | ⟨rfl, rfl⟩
  · exact h.files c
  · exact ⟨none, 0, rfl, fun j hj => by simp at hj⟩
theorem Mk.below {W W' : World} {v : Value} {l : List Fl} (h : Mk W v l) (hb : Below W.heap.size W W') : Mk W' v l := by
  rcases h with ⟨g, c, rfl, h⟩ | h
  · exact .inl ⟨g, c, rfl, FilesAt.below h hb⟩
  · exact .inr h
theorem grown_of_below {w w' : World} (h : Below w.heap.size w w') (r : Option Nat) : w.grownBy w' r := ⟨h.os, h.tape, h.output, h.size, fun q hq _ => h.block q hq⟩
theorem markTO_any (v : Value) (k : Nat) (x : Int) (l : List Fl) (w : World) (h : Mk w v l) (hn : l.length ≤ 1100000) (hk : k ≤ 100000000) :
    Calls Try.prog 18 #[.agg #[v, .int .i64 x], .int .i64 (k : Int)] w fun e w' => e = .returned (.int .i64 ((k + 3 * l.length : Nat) : Int)) ∧ Mk w' v (marksF k l.length) ∧ w.grownBy w' v.ownBlock := by
  rcases h with ⟨g, c, rfl, h⟩ | ⟨rfl, rfl⟩
  · have K := hidH (fun W hW => markTree_any g 0 c k l W hW hn hk)
    have HF := hidH h
    clear h hn hk
    generalize ((k + 3 * l.length : Nat) : Int) = z at *
    go_enter Try.func18, Try.ntmps18
    go_wp2_with fail
    refine (K.out _ (FilesAt.below HF.out ((Below.refl _ _).alloc (Nat.le_refl _) _))).mono ?_
    rintro e w1 ⟨rfl, hf1, hg1⟩
    have HF1 := hidH hf1
    have HG1 := hidH (grown_alloc hg1)
    clear hf1 hg1
    go_wp2
    go_ret
    exact ⟨rfl, .inl ⟨g, c, by rw [length_marksF], HF1.out⟩, HG1.out⟩
  · have K := hidH (fun W => markTree_nil k W hk)
    go_enter Try.func18, Try.ntmps18
    go_wp2_with fail
    refine (K.out _).mono ?_
    rintro e w1 ⟨rfl, hb1⟩
    go_wp2
    go_ret
    exact ⟨rfl, .inr ⟨rfl, rfl⟩, grown_of_below (bstep ((Below.refl _ _).alloc (Nat.le_refl _) _) hb1) _⟩
theorem heldTO_any (v : Value) (k n : Nat) (x : Int) (w : World) (h : Files w v (marksF k n)) (hn : n ≤ 1100000) (hk : k ≤ 100000000) :
    Calls Try.prog 19 #[.agg #[v, .int .i64 x], .int .i64 (k : Int)] w fun e w' => e = .returned (.int .i64 ((k + 3 * n : Nat) : Int)) ∧ Below w.heap.size w w' := by
  have K := hidH (fun W hW => heldTree_any v k n W hW hn hk)
  have HF := hidH h
  have hz : ¬ ((k + 3 * n : Nat) : Int) < 0 := by omega
  clear h hn hk
  generalize ((k + 3 * n : Nat) : Int) = z at *
  go_enter Try.func19, Try.ntmps19
  go_wp2_with fail
  refine (K.out _ (Files.below HF.out ((Below.refl _ _).alloc (Nat.le_refl _) _))).mono ?_
  rintro e w1 ⟨rfl, hb1⟩
  go_wp2
  go_ret
  exact ⟨rfl, bstep ((Below.refl _ _).alloc (Nat.le_refl _) _) hb1⟩
theorem eqTO_any (v u : Value) (x : Int) (l : List Fl) (w : World) (h : Files w v l) (h2 : Files w u l) (hn : l.length ≤ 1100000) :
    Calls Try.prog 15 #[.agg #[v, .int .i64 x], .agg #[u, .int .i64 x]] w fun e w' => e = .returned (.bool true) ∧ Below w.heap.size w w' := by
  have K := hidH (fun W hW hW2 => eqTree_any v u l W hW hW2 hn)
  have HF := hidH h
  have HF2 := hidH h2
  clear h h2 hn
  go_enter Try.func15, Try.ntmps15
  go_wp2_with fail
  refine (K.out _ (Files.below HF.out (((Below.refl _ _).alloc (Nat.le_refl _) _).alloc (by simp) _)) (Files.below HF2.out (((Below.refl _ _).alloc (Nat.le_refl _) _).alloc (by simp) _))).mono ?_
  rintro e w1 ⟨rfl, hb1⟩
  obtain ⟨hcc, hff⟩ := bcell hb1
  simp at hcc
  go_wp2
  go_ret
  exact ⟨rfl, bstep (((Below.refl _ _).alloc (Nat.le_refl _) _).alloc (by simp) _) hb1⟩
end Go.Proofs.Ytfpgobkedfhakaa.Tre
