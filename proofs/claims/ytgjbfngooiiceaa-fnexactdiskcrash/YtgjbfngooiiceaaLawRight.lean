/- The law on DiskRight. -/
import Derived.Test.YtgjbfngooiiceaaImplRight
namespace Go.Proofs.Ytgjbfngooiiceaa.Disk
open Go.RowKit Go.Proofs.Ytgjbfngooiiceaa.Mem Go.Proofs.Ytgjbfngooiiceaa.Harn

theorem size_le_wt {l : List ByteArray} {t : ByteArray} (h : t ∈ l) : t.size ≤ wt l := by
  induction l with
  | nil => cases h
  | cons a l ih =>
    rcases List.mem_cons.1 h with rfl | h
    · unfold wt; omega
    · have := ih h; unfold wt; omega
theorem size_le_wtP {l : List (Int × ByteArray)} {y : Int × ByteArray} (h : y ∈ l) : y.2.size ≤ wtP l := by
  unfold wtP
  exact size_le_wt (List.mem_map_of_mem h)

/-- What is known of a disk that came in. -/
structure Came (w : World) (vs vp : Value) (ls : List ByteArray) (lp : List (Int × ByteArray)) : Prop where
  s : Strs w vs ls
  n : ls.length ≤ maxLen
  t : ∀ t ∈ ls, t.size ≤ maxLen
  p : Pends w vp lp
  m : lp.length ≤ maxLen
  y : ∀ y ∈ lp, y.2.size ≤ maxLen ∧ -9223372036854775808 ≤ y.1 ∧ y.1 ≤ 9223372036854775807

theorem Came.below {W W' : World} {vs vp : Value} {ls : List ByteArray} {lp : List (Int × ByteArray)} (h : Came W vs vp ls lp) (hb : Below W.heap.size W W') : Came W' vs vp ls lp :=
  ⟨Strs.below h.s hb, h.n, h.t, Pends.below h.p hb, h.m, h.y⟩
theorem Came.sz {w : World} {vs vp : Value} {ls : List ByteArray} {lp : List (Int × ByteArray)} (h : Came w vs vp ls lp) (left : Nat) (hl : left ≤ 1048576) : Calls Try.prog 9 #[.agg #[vs, vp], .int .i64 (left : Int)] w fun e w' => Below w.heap.size w w' ∧ ((∃ r : Nat, e = .returned (.int .i64 (r : Int)) ∧ r + wtD ls lp = left) ∨ (e = .returned (.int .i64 (-1)) ∧ left < wtD ls lp)) :=
  szDisk_any vs vp ls lp left w h.s h.p h.n h.m h.t (fun y hy => (h.y y hy).1) hl

/-- A disk that is not too great for the laws. -/
structure Fits (ls : List ByteArray) (lp : List (Int × ByteArray)) : Prop where
  n : ls.length ≤ 1100000
  m : lp.length ≤ 1100000
  t : ∀ t ∈ ls, t.size ≤ maxLen
  y : ∀ y ∈ lp, y.2.size ≤ maxLen ∧ -9223372036854775808 ≤ y.1 ∧ y.1 ≤ 9223372036854775807
  t2 : ∀ t ∈ ls, t.size ≤ 2000000
  y2 : ∀ y ∈ lp, y.2.size ≤ 2000000
theorem Came.fits {w : World} {vs vp : Value} {ls : List ByteArray} {lp : List (Int × ByteArray)} (h : Came w vs vp ls lp) (hw : wtD ls lp ≤ 1048576) : Fits ls lp := by
  unfold wtD at hw
  refine ⟨by omega, by omega, h.t, h.y, fun t ht => ?_, fun y hy => ?_⟩
  · have := size_le_wt ht; omega
  · have := size_le_wtP hy; omega

/-- The box of a disk that came in. -/
def Box25 (W : World) (g : Nat) (vs vp : Value) : Prop := HasRow W g [vs, vp] 25
theorem Box25.cells {W : World} {g : Nat} {vs vp : Value} (h : Box25 W g vs vp) : W.cell? ⟨g, 0, none⟩ = some vs ∧ W.cell? ⟨g, 1, none⟩ = some vp ∧ (∀ o, W.frozen? ⟨g, o, none⟩ = false) := ⟨Mem.cell_of_row h 0, Mem.cell_of_row h 1, Mem.frozen_of_row h⟩
theorem Box25.below {W W' : World} {g B : Nat} {vs vp : Value} (h : Box25 W g vs vp) (hb : Below B W W') (hg : g < B) : Box25 W' g vs vp := Sha.row_below h hb hg

set_option maxRecDepth 100000 in
set_option maxHeartbeats 2000000 in
theorem right_law (vs vp : Value) (ls : List ByteArray) (lp : List (Int × ByteArray)) (w : World) (h : Came w vs vp ls lp) :
    Calls Try.prog 3 #[.agg #[vs, vp]] w fun e w' => e = .returned (.bool true) ∧ Below w.heap.size w w' := by
  have hb0 : Below w.heap.size w (w.alloc (.cells #[vs, vp] 25)) := (Below.refl _ _).alloc (Nat.le_refl _) _
  have HB0 : Hid (Below w.heap.size w (w.alloc (.cells #[vs, vp] 25))) := hb0
  have HC0 : Hid (Came (w.alloc (.cells #[vs, vp] 25)) vs vp ls lp) := h.below hb0
  have HC : Hid (Came w vs vp ls lp) := h
  clear hb0 h
  by_cases hbig : 1048576 < wtD ls lp
  · go_enter Try.func3, Try.ntmps3
    go_wp2_with (go_at_call 9; refine (HC0.out.sz 1048576 (by omega)).mono ?_; rintro e w1 ⟨hb1, ⟨r, rfl, hr⟩ | ⟨rfl, _⟩⟩; (exfalso; omega))
    go_ret
    exact ⟨rfl, bT HB0.out hb1⟩
  · have HF : Hid (Fits ls lp) := HC.out.fits (by omega)
    go_enter Try.func3, Try.ntmps3
    have HTO : Hid (∀ W, Below w.heap.size w W → Calls Try.prog 11 #[.agg #[vs, vp]] W fun e w' => ∃ us up, e = .returned (.agg #[us, up]) ∧ Own w' W.heap.size w'.heap.size us up ls lp ∧ Below W.heap.size W w' ∧ W.heap.size < w'.heap.size) := fun W hW => toDisk_own vs vp ls lp W (Strs.below HC.out.s hW) (Pends.below HC.out.p hW) HF.out.n HF.out.m
    have HSP : Hid (∀ W us up, Strs W us ls → Pends W up lp → Calls Try.prog 10 #[.agg #[us, up]] W fun e w' => e = .returned (.bool (rightB ls lp)) ∧ Below W.heap.size W w') := fun W us up a b => specRight_any us up ls lp W a b HF.out.n HF.out.m HF.out.t HF.out.y
    have HIM : Hid (∀ W us up, Strs W us ls → Pends W up lp → Calls Try.prog 12 #[.agg #[us, up]] W fun e w' => e = .returned (.bool (rightB ls lp)) ∧ Below W.heap.size W w') := fun W us up a b => implRight_any us up ls lp W a b HF.out.n HF.out.m HF.out.t HF.out.y
    have HBX : Hid (Box25 (w.alloc (.cells #[vs, vp] 25)) w.heap.size vs vp) := Sha.row_new w [vs, vp] 25
    generalize rightB ls lp = rb at *
    go_wp2_with (go_at_call 9; refine (HC0.out.sz 1048576 (by omega)).mono ?_; rintro e w1 ⟨hb1, ⟨r, rfl, hr⟩ | ⟨rfl, hr⟩⟩; rotate_left; (exfalso; omega); have B1 := Box25.below HBX.out hb1 (by simp); obtain ⟨c0, c1, _⟩ := B1.cells; have hz1 := hb1.size; simp at hz1; have HB1 : Hid (Below w.heap.size w w1) := bT HB0.out hb1; have HX1 : Hid _ := B1; clear hb1 B1 hr)
    refine (HTO.out _ HB1.out).mono ?_
    rintro e w2 ⟨us, up, rfl, ho2, hb2, hz2⟩
    obtain ⟨va, ca, vb, cb, rfl, rfl⟩ := ho2.shape
    have HO2 : Hid _ := ho2
    have HB2 : Hid (Below w.heap.size w w2) := bT HB1.out hb2
    have B2 := Box25.below HX1.out hb2 (by omega)
    have HX2 : Hid _ := B2
    clear ho2 hb2 c0 c1 B2
    go_wp2_with fail
    refine (HSP.out _ _ _ (Own.strs HO2.out) (Own.pends HO2.out)).mono ?_
    rintro e w3 ⟨rfl, hb3⟩
    have B3 := Box25.below HX2.out hb3 (by omega)
    obtain ⟨c0, c1, _⟩ := B3.cells
    have HB3 : Hid (Below w.heap.size w w3) := bT HB2.out hb3
    have HX3 : Hid _ := B3
    have hz3 := hb3.size
    clear B3 hb3
    go_wp2_with fail
    refine (HTO.out _ HB3.out).mono ?_
    rintro e w4 ⟨us, up, rfl, ho4, hb4, hz4⟩
    obtain ⟨va4, ca4, vb4, cb4, rfl, rfl⟩ := ho4.shape
    have HO4 : Hid (Own (w4.alloc (.cells #[.slice va4 ls.length ca4, .slice vb4 lp.length cb4] 30)) w3.heap.size w4.heap.size (.slice va4 ls.length ca4) (.slice vb4 lp.length cb4) ls lp) := ho4.below ((Below.refl _ _).alloc (Nat.le_refl _) _)
    have HB4 : Hid (Below w.heap.size w (w4.alloc (.cells #[.slice va4 ls.length ca4, .slice vb4 lp.length cb4] 30))) := bA (bT HB3.out hb4) _
    have B4 := Sha.row_alloc (Box25.below HX3.out hb4 (by omega)) (.cells #[.slice va4 ls.length ca4, .slice vb4 lp.length cb4] 30)
    have HX4 : Hid (Box25 (w4.alloc (.cells #[.slice va4 ls.length ca4, .slice vb4 lp.length cb4] 30)) w.heap.size vs vp) := B4
    clear ho4 hb4 c0 c1 B4
    go_wp2_with fail
    refine (HIM.out _ _ _ (Own.strs HO4.out) (Own.pends HO4.out)).mono ?_
    rintro e w5 ⟨rfl, hb5⟩
    have B5 := Box25.below HX4.out hb5 (by simp; omega)
    obtain ⟨c0, c1, _⟩ := B5.cells
    have R5 : HasRow w5 w4.heap.size [.slice va4 ls.length ca4, .slice vb4 lp.length cb4] 30 := Sha.row_below (Sha.row_new w4 [.slice va4 ls.length ca4, .slice vb4 lp.length cb4] 30) hb5 (by simp)
    have e0 : w5.cell? ⟨w4.heap.size, 0, none⟩ = some (.slice va4 ls.length ca4) := Mem.cell_of_row R5 0
    have e1 : w5.cell? ⟨w4.heap.size, 1, none⟩ = some (.slice vb4 lp.length cb4) := Mem.cell_of_row R5 1
    have HB5 : Hid (Below w.heap.size w w5) := bT HB4.out hb5
    have HO5 : Hid (Own w5 w3.heap.size w4.heap.size (.slice va4 ls.length ca4) (.slice vb4 lp.length cb4) ls lp) := Own.below HO4.out hb5
    have hz5 := hb5.size
    simp at hz5
    have n1 : ¬ w4.heap.size = w.heap.size := by omega
    have n2 : ¬ w.heap.size = w4.heap.size := by omega
    clear B5 R5 hb5
    go_wp2_with fail
    go_region_held3 (fun w' => w'.cell? ⟨w4.heap.size, 0, none⟩ = some (.slice va4 ls.length ca4) ∧ w'.cell? ⟨w4.heap.size, 1, none⟩ = some (.slice vb4 lp.length cb4) ∧ w'.cell? ⟨w.heap.size, 0, none⟩ = some vs ∧ w'.cell? ⟨w.heap.size, 1, none⟩ = some vp)
      (first
        | go_keep
        | (go_split_ands; refine ⟨?_, ?_, ?_, ?_⟩ <;> (rw [hb7.cell (by simp; omega)]; first | exact k0 | exact k1 | exact k2 | exact k3))
        | (go_split_ands; refine ⟨?_, ?_, ?_, ?_⟩ <;> (rw [hb6.cell (by simp; omega)]; simp [*])))
      (first
        | (go_at_call 11; refine (HTO.out _ (by repeat' (first | exact HB5.out | apply bD))).mono ?_; rintro e w6 ⟨us, up, rfl, ho6, hb6, hz6⟩; obtain ⟨va6, ca6, vb6, cb6, rfl, rfl⟩ := ho6.shape; have HO6 : Hid _ := ho6; have hb56 : Below w5.heap.size w5 w6 := (by refine bT ?_ hb6; repeat' (first | exact Below.refl _ _ | apply bD)); have HO56 : Hid _ := Own.below HO5.out hb56; have k0 := (hb56.cell (p := ⟨w4.heap.size, 0, none⟩) (by simp; omega)).trans e0; have k1 := (hb56.cell (p := ⟨w4.heap.size, 1, none⟩) (by simp; omega)).trans e1; have k2 := (hb56.cell (p := ⟨w.heap.size, 0, none⟩) (by simp; omega)).trans c0; have k3 := (hb56.cell (p := ⟨w.heap.size, 1, none⟩) (by simp; omega)).trans c1; have HB56 : Hid (Below w.heap.size w w6) := bT HB5.out hb56; have hz56 := hb56.size; clear ho6)
        | (go_at_call 13; refine (eqDisk_any _ _ _ _ ls lp _ (Own.strs HO56.out) (Own.pends HO56.out) (Own.strs HO6.out) (Own.pends HO6.out) HF.out.n HF.out.m).mono ?_; rintro e w7 ⟨rfl, hb7⟩))
    all_goals go_wp2
    all_goals go_ret
    all_goals exact ⟨rfl, bT HB56.out hb7⟩
end Go.Proofs.Ytgjbfngooiiceaa.Disk
