/- What the functions on an area tell, and the laws' functions on it. -/
import Derived.Test.YtnfidmjplhmblaaDoorTextsI
namespace Go.Proofs.YtnfidmjplhmblaaDoor.Disk
open Go.RowKit Go.Proofs.YtnfidmjplhmblaaDoor.Mem Go.Proofs.YtnfidmjplhmblaaDoor.Harn Go.Proofs.YtnfidmjplhmblaaDoor.DiskP Go.Proofs.YtnfidmjplhmblaaDoor.Mark

structure AOut where
  ls : List ByteArray
  lp : List (Int × ByteArray)
  t : ByteArray
  g : Int
  c : Int
def illA (c : Int) : AOut := ⟨[], [], ByteArray.empty, 0, c⟩
/-- What is told, as a value. -/
abbrev outA (vs vp : Value) (t : ByteArray) (g c : Int) : Value := .agg #[vs, vp, .string t, .int .i64 g, .int .i64 c]
/-- A call told o: in memory of its own; nothing old has turned. -/
def ToldA (w : World) (o : AOut) (e : Ending) (w' : World) : Prop := ∃ us up, e = .returned (outA us up o.t o.g o.c) ∧ Own w' w.heap.size w'.heap.size us up o.ls o.lp ∧ Below w.heap.size w w'
def BoxA (W : World) (g : Nat) (vs vp : Value) (t : ByteArray) (gn c : Int) : Prop := HasRow W g [vs, vp, .string t, .int .i64 gn, .int .i64 c] 31
theorem BoxA.cells {W : World} {g : Nat} {vs vp : Value} {t : ByteArray} {gn c : Int} (h : BoxA W g vs vp t gn c) : W.cell? ⟨g, 0, none⟩ = some vs ∧ W.cell? ⟨g, 1, none⟩ = some vp ∧ W.cell? ⟨g, 2, none⟩ = some (.string t) ∧ W.cell? ⟨g, 3, none⟩ = some (.int .i64 gn) ∧ W.cell? ⟨g, 4, none⟩ = some (.int .i64 c) := ⟨Mem.cell_of_row h 0, Mem.cell_of_row h 1, Mem.cell_of_row h 2, Mem.cell_of_row h 3, Mem.cell_of_row h 4⟩
theorem BoxA.frozen {W : World} {g : Nat} {vs vp : Value} {t : ByteArray} {gn c : Int} (h : BoxA W g vs vp t gn c) : ∀ o, W.frozen? ⟨g, o, none⟩ = false := Mem.frozen_of_row h
theorem BoxA.below {W W' : World} {g B : Nat} {vs vp : Value} {t : ByteArray} {gn c : Int} (h : BoxA W g vs vp t gn c) (hb : Below B W W') (hg : g < B) : BoxA W' g vs vp t gn c := Sha.row_below h hb hg
theorem BoxA.only {p : Nat → Prop} {W W' : World} {g : Nat} {vs vp : Value} {t : ByteArray} {gn c : Int} (h : BoxA W g vs vp t gn c) (hg : Only p W W') (hp : ¬ p g) : BoxA W' g vs vp t gn c := hg.row h hp
theorem BoxA.alloc {W : World} {g : Nat} {vs vp : Value} {t : ByteArray} {gn c : Int} (h : BoxA W g vs vp t gn c) (o : Obj) : BoxA (W.alloc o) g vs vp t gn c := Sha.row_alloc h o
theorem boxA_at (w : World) (vs vp : Value) (t : ByteArray) (gn c : Int) : BoxA (w.alloc (.cells #[vs, vp, .string t, .int .i64 gn, .int .i64 c] 31)) w.heap.size vs vp t gn c := Sha.row_new w [vs, vp, .string t, .int .i64 gn, .int .i64 c] 31

set_option maxHeartbeats 1000000 in
theorem eqAreaOut_any (vs vp us up : Value) (ls : List ByteArray) (lp : List (Int × ByteArray)) (t : ByteArray) (gn c : Int) (w : World) (hs : Strs w vs ls) (hp : Pends w vp lp) (ks : Strs w us ls) (kp : Pends w up lp) (h1 : ls.length ≤ 1100000) (h2 : lp.length ≤ 1100000) :
    Calls Tryd.prog 8 #[outA vs vp t gn c, outA us up t gn c] w fun e w' => e = .returned (.bool true) ∧ Below w.heap.size w w' := by
  obtain ⟨W0, hW0⟩ : ∃ W0, W0 = (w.alloc (Obj.cells #[vs, vp, .string t, .int .i64 gn, .int .i64 c] 31)).alloc (Obj.cells #[us, up, .string t, .int .i64 gn, .int .i64 c] 31) := ⟨_, rfl⟩
  have hB0 : Below w.heap.size w W0 := by rw [hW0]; exact ((Below.refl _ _).alloc (Nat.le_refl _) _).alloc (by simp) _
  have H2 : Hid (Strs W0 vs ls) := Strs.below hs hB0
  have H3 : Hid (Strs W0 us ls) := Strs.below ks hB0
  have H4 : Hid (Pends W0 vp lp) := Pends.below hp hB0
  have H5 : Hid (Pends W0 up lp) := Pends.below kp hB0
  have HB0 : Hid (Below w.heap.size w W0) := hB0
  have HX : Hid (BoxA W0 w.heap.size vs vp t gn c) := by rw [hW0]; exact BoxA.alloc (boxA_at w vs vp t gn c) _
  have HY : Hid (BoxA W0 (w.heap.size + 1) us up t gn c) := by rw [hW0]; exact Sha.row_new_at (w.alloc _) [us, up, .string t, .int .i64 gn, .int .i64 c] 31 _ (by simp)
  have HZ : Hid (W0.heap.size = w.heap.size + 2) := by rw [hW0]; simp [Hid]
  clear hs hp ks kp hB0
  go_enter Tryd.func8, Tryd.ntmps8
  go_wp2_with (go_at_call 9; rw [← hW0]; clear hW0; refine (eqDisk_any _ _ _ _ ls lp _ H2.out H4.out H3.out H5.out h1 h2).mono ?_; rintro e w1 ⟨rfl, hb1⟩; obtain ⟨x0, x1, x2, x3, x4⟩ := BoxA.cells (BoxA.below HX.out hb1 (by have := HZ.out; omega)); obtain ⟨y0, y1, y2, y3, y4⟩ := BoxA.cells (BoxA.below HY.out hb1 (by have := HZ.out; omega)); have HB1 : Hid _ := hb1; clear hb1)
  go_ret
  exact ⟨rfl, HB0.out.trans (HB1.out.mono HB0.out.size)⟩

set_option maxHeartbeats 1000000 in
theorem markAreaOut_own (lo hi k : Nat) (vs vp : Value) (ls : List ByteArray) (lp : List (Int × ByteArray)) (t : ByteArray) (gn c : Int) (w : World) (h : Own w lo hi vs vp ls lp) (hhi : hi ≤ w.heap.size) (h1 : ls.length ≤ 1100000) (h2 : lp.length ≤ 1100000) (hk : k ≤ 10000000) :
    Calls Tryd.prog 11 #[outA vs vp t gn c, .int .i64 (k : Int)] w fun e w' => e = .returned (.int .i64 ((k + ls.length + 2 * lp.length : Nat) : Int)) ∧ Own w' lo hi vs vp (marks k ls.length) (marksP (k + ls.length) lp.length) ∧ Only (fun b => lo ≤ b ∧ b < hi) w w' := by
  have hB0 : Below w.heap.size w (w.alloc (Obj.cells #[vs, vp, .string t, .int .i64 gn, .int .i64 c] 31)) := (Below.refl _ _).alloc (Nat.le_refl _) _
  have HO : Hid (Own (w.alloc (Obj.cells #[vs, vp, .string t, .int .i64 gn, .int .i64 c] 31)) lo hi vs vp ls lp) := h.below hB0
  have HB0 : Hid (Only (fun b => lo ≤ b ∧ b < hi) w (w.alloc (Obj.cells #[vs, vp, .string t, .int .i64 gn, .int .i64 c] 31))) := Only.of_below _ hB0
  clear h hB0
  go_enter Tryd.func11, Tryd.ntmps11
  go_wp2_with (go_at_call 10; refine (markDisk_own lo hi k vs vp ls lp _ HO.out (by simp; omega) h1 h2 hk).mono ?_; rintro e w1 ⟨rfl, ho1, hg1⟩; have HO1 : Hid _ := ho1; clear ho1)
  go_ret
  exact ⟨rfl, HO1.out, HB0.out.trans hg1⟩

set_option maxHeartbeats 1000000 in
theorem heldAreaOut_own (lo hi k n m : Nat) (vs vp : Value) (t : ByteArray) (gn c : Int) (w : World) (h : Own w lo hi vs vp (marks k n) (marksP (k + n) m)) (h1 : n ≤ 1100000) (h2 : m ≤ 1100000) (hk : k ≤ 10000000) :
    Calls Tryd.prog 12 #[outA vs vp t gn c, .int .i64 (k : Int)] w fun e w' => e = .returned (.int .i64 ((k + n + 2 * m : Nat) : Int)) ∧ Below w.heap.size w w' := by
  have hB0 : Below w.heap.size w (w.alloc (Obj.cells #[vs, vp, .string t, .int .i64 gn, .int .i64 c] 31)) := (Below.refl _ _).alloc (Nat.le_refl _) _
  have HO : Hid (Own (w.alloc (Obj.cells #[vs, vp, .string t, .int .i64 gn, .int .i64 c] 31)) lo hi vs vp (marks k n) (marksP (k + n) m)) := h.below hB0
  have HB0 : Hid (Below w.heap.size w (w.alloc (Obj.cells #[vs, vp, .string t, .int .i64 gn, .int .i64 c] 31))) := hB0
  clear h hB0
  go_enter Tryd.func12, Tryd.ntmps12
  go_wp2_with (go_at_call 31; refine (heldDisk_own lo hi k n m vs vp _ HO.out h1 h2 hk).mono ?_; rintro e w1 ⟨rfl, hb1⟩)
  go_ret
  exact ⟨rfl, HB0.out.trans (hb1.mono HB0.out.size)⟩
end Go.Proofs.YtnfidmjplhmblaaDoor.Disk
