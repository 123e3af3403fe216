/- The laws' functions on disks of the call's own, and on what the disk's functions tell. -/
import Derived.Test.YtgjbfngooiiceaaOwnDisk
namespace Go.Proofs.Ytgjbfngooiiceaa.Harn
open Go.RowKit Go.Proofs.Ytgjbfngooiiceaa.Mem Go.Proofs.Ytgjbfngooiiceaa.Mark

set_option maxHeartbeats 1000000 in
theorem markDisk_own (lo hi k : Nat) (vs vp : Value) (ls : List ByteArray) (lp : List (Int × ByteArray)) (w : World) (h : Own w lo hi vs vp ls lp) (hhi : hi ≤ w.heap.size) (h1 : ls.length ≤ 1100000) (h2 : lp.length ≤ 1100000) (hk : k ≤ 10000000) :
    Calls Try.prog 16 #[.agg #[vs, vp], .int .i64 (k : Int)] w fun e w' => e = .returned (.int .i64 ((k + ls.length + 2 * lp.length : Nat) : Int)) ∧ Own w' lo hi vs vp (marks k ls.length) (marksP (k + ls.length) lp.length) ∧ Only (fun b => lo ≤ b ∧ b < hi) w w' := by
  obtain ⟨va, cs, vb, cp, gs, os, gp, op, rfl, rfl, a1, a2, a3, a4, a5⟩ := h
  obtain ⟨W0, hW0⟩ : ∃ W0, W0 = w.alloc (Obj.cells #[.slice va ls.length cs, .slice vb lp.length cp] 30) := ⟨_, rfl⟩
  have hB0 : Below w.heap.size w W0 := by rw [hW0]; exact (Below.refl _ _).alloc (Nat.le_refl _) _
  have HB0 : Hid (Below w.heap.size w W0) := hB0
  have HS : Hid (StrsAt W0 gs os ls) := StrsAt.below a2 hB0
  have HP : Hid (PendsAt W0 gp op lp) := PendsAt.below a4 hB0
  have HA1 : Hid (ls.length = 0 ∨ (va = some ⟨gs, os, none⟩ ∧ lo ≤ gs ∧ gs < hi)) := a1
  have HA3 : Hid (lp.length = 0 ∨ (vb = some ⟨gp, op, none⟩ ∧ lo ≤ gp ∧ gp < hi)) := a3
  have HA5 : Hid (gs ≠ gp ∨ ls.length = 0 ∨ lp.length = 0) := a5
  clear a1 a2 a3 a4 a5 hB0
  rw [hW0] at HS HP HB0
  clear hW0 W0
  go_enter Try.func16, Try.ntmps16
  have A1 : Hid (∀ w1, Only (fun b => b = gs ∧ ls.length ≠ 0) (w.alloc (Obj.cells #[.slice va ls.length cs, .slice vb lp.length cp] 30)) w1 → w1.cell? ⟨w.heap.size, 1, none⟩ = some (.slice vb lp.length cp)) := fun w1 hg => by
    rw [hg.cell (by simp) (by rintro ⟨e, h0⟩; have := HA1.out.resolve_left h0; simp at e; omega)]
    exact Mem.cell_of_row (Sha.row_new w [.slice va ls.length cs, .slice vb lp.length cp] 30) 1
  go_wp2_with (first
    | (go_at_call 40; refine (markStr_opt gs os cs k va ls _ (HA1.out.imp id (·.1)) HS.out h1 (by omega)).mono ?_; rintro e w1 ⟨rfl, hs1, hg1⟩; have a1 := A1.out w1 hg1; have HS1 : Hid _ := hs1; have HG1 : Hid _ := hg1; clear hs1 hg1)
    | (go_at_call 41; refine (markPend_opt gp op cp (k + ls.length) vb lp _ (HA3.out.imp id (·.1)) (PendsAt.only HP.out HG1.out (by rcases HA5.out with h | h | h; exact .inr (fun e => h e.1.symm); exact .inr (fun e => e.2 h); exact .inl h)) h2 (by omega)).mono ?_; rintro e w2 ⟨rfl, hs2, hg2⟩; have HS2 : Hid _ := hs2; have HG2 : Hid _ := hg2; clear hs2 hg2))
  go_ret
  refine ⟨rfl, ?_, ?_⟩
  · refine ⟨va, cs, vb, cp, gs, os, gp, op, by rw [length_marks], by rw [length_marksP], by rw [length_marks]; exact HA1.out, StrsAt.only HS1.out HG2.out ?_, by rw [length_marksP]; exact HA3.out, HS2.out, by rw [length_marks, length_marksP]; exact HA5.out⟩
    rw [length_marks]
    rcases HA5.out with h | h | h
    · exact .inr (fun e => h e.1)
    · exact .inl h
    · exact .inr (fun e => e.2 h)
  · refine ((Only.of_below _ HB0.out).trans (HG1.out.mono ?_)).trans (HG2.out.mono ?_)
    · rintro b ⟨rfl, h0⟩
      exact (HA1.out.resolve_left h0).2
    · rintro b ⟨rfl, h0⟩
      exact (HA3.out.resolve_left h0).2

theorem heldDisk_own (lo hi k n m : Nat) (vs vp : Value) (w : World) (h : Own w lo hi vs vp (marks k n) (marksP (k + n) m)) (h1 : n ≤ 1100000) (h2 : m ≤ 1100000) (hk : k ≤ 10000000) :
    Calls Try.prog 17 #[.agg #[vs, vp], .int .i64 (k : Int)] w fun e w' => e = .returned (.int .i64 ((k + n + 2 * m : Nat) : Int)) ∧ Below w.heap.size w w' :=
  heldDisk_any vs vp k n m w h.strs h.pends h1 h2 hk

/-! ### what the disk's functions tell -/
/-- What is told, as a value. -/
abbrev outV (vs vp : Value) (t : ByteArray) (c : Int) : Value := .agg #[vs, vp, .string t, .int .i64 c]

set_option maxHeartbeats 1000000 in
theorem eqDiskOut_any (vs vp us up : Value) (ls : List ByteArray) (lp : List (Int × ByteArray)) (t : ByteArray) (c : Int) (w : World) (hs : Strs w vs ls) (hp : Pends w vp lp) (ks : Strs w us ls) (kp : Pends w up lp) (h1 : ls.length ≤ 1100000) (h2 : lp.length ≤ 1100000) :
    Calls Try.prog 20 #[outV vs vp t c, outV us up t c] w fun e w' => e = .returned (.bool true) ∧ Below w.heap.size w w' := by
  have hB0 : Below w.heap.size w ((w.alloc (Obj.cells #[vs, vp, .string t, .int .i64 c] 38)).alloc (Obj.cells #[us, up, .string t, .int .i64 c] 38)) := ((Below.refl _ _).alloc (Nat.le_refl _) _).alloc (by simp) _
  have H2 : Hid (Strs ((w.alloc (Obj.cells #[vs, vp, .string t, .int .i64 c] 38)).alloc (Obj.cells #[us, up, .string t, .int .i64 c] 38)) vs ls) := Strs.below hs hB0
  have H3 : Hid (Strs ((w.alloc (Obj.cells #[vs, vp, .string t, .int .i64 c] 38)).alloc (Obj.cells #[us, up, .string t, .int .i64 c] 38)) us ls) := Strs.below ks hB0
  have H4 : Hid (Pends ((w.alloc (Obj.cells #[vs, vp, .string t, .int .i64 c] 38)).alloc (Obj.cells #[us, up, .string t, .int .i64 c] 38)) vp lp) := Pends.below hp hB0
  have H5 : Hid (Pends ((w.alloc (Obj.cells #[vs, vp, .string t, .int .i64 c] 38)).alloc (Obj.cells #[us, up, .string t, .int .i64 c] 38)) up lp) := Pends.below kp hB0
  have HB0 : Hid (Below w.heap.size w ((w.alloc (Obj.cells #[vs, vp, .string t, .int .i64 c] 38)).alloc (Obj.cells #[us, up, .string t, .int .i64 c] 38))) := hB0
  clear hs hp ks kp hB0
  go_enter Try.func20, Try.ntmps20
  go_wp2_with (go_at_call 13; refine (eqDisk_any _ _ _ _ ls lp _ H2.out H4.out H3.out H5.out h1 h2).mono ?_; rintro e w1 ⟨rfl, hb1⟩; obtain ⟨hcc, hff⟩ := bcell hb1; simp at hcc hff)
  go_ret
  exact ⟨rfl, HB0.out.trans (hb1.mono HB0.out.size)⟩

set_option maxHeartbeats 1000000 in
theorem markDiskOut_own (lo hi k : Nat) (vs vp : Value) (ls : List ByteArray) (lp : List (Int × ByteArray)) (t : ByteArray) (c : Int) (w : World) (h : Own w lo hi vs vp ls lp) (hhi : hi ≤ w.heap.size) (h1 : ls.length ≤ 1100000) (h2 : lp.length ≤ 1100000) (hk : k ≤ 10000000) :
    Calls Try.prog 21 #[outV vs vp t c, .int .i64 (k : Int)] w fun e w' => e = .returned (.int .i64 ((k + ls.length + 2 * lp.length : Nat) : Int)) ∧ Own w' lo hi vs vp (marks k ls.length) (marksP (k + ls.length) lp.length) ∧ Only (fun b => lo ≤ b ∧ b < hi) w w' := by
  have hB0 : Below w.heap.size w (w.alloc (Obj.cells #[vs, vp, .string t, .int .i64 c] 38)) := (Below.refl _ _).alloc (Nat.le_refl _) _
  have HO : Hid (Own (w.alloc (Obj.cells #[vs, vp, .string t, .int .i64 c] 38)) lo hi vs vp ls lp) := h.below hB0
  have HB0 : Hid (Only (fun b => lo ≤ b ∧ b < hi) w (w.alloc (Obj.cells #[vs, vp, .string t, .int .i64 c] 38))) := Only.of_below _ hB0
  clear h hB0
  go_enter Try.func21, Try.ntmps21
  go_wp2_with (go_at_call 16; refine (markDisk_own lo hi k vs vp ls lp _ HO.out (by simp; omega) h1 h2 hk).mono ?_; rintro e w1 ⟨rfl, ho1, hg1⟩; have HO1 : Hid _ := ho1; clear ho1)
  go_ret
  exact ⟨rfl, HO1.out, HB0.out.trans hg1⟩

set_option maxHeartbeats 1000000 in
theorem heldDiskOut_own (lo hi k n m : Nat) (vs vp : Value) (t : ByteArray) (c : Int) (w : World) (h : Own w lo hi vs vp (marks k n) (marksP (k + n) m)) (h1 : n ≤ 1100000) (h2 : m ≤ 1100000) (hk : k ≤ 10000000) :
    Calls Try.prog 22 #[outV vs vp t c, .int .i64 (k : Int)] w fun e w' => e = .returned (.int .i64 ((k + n + 2 * m : Nat) : Int)) ∧ Below w.heap.size w w' := by
  have hB0 : Below w.heap.size w (w.alloc (Obj.cells #[vs, vp, .string t, .int .i64 c] 38)) := (Below.refl _ _).alloc (Nat.le_refl _) _
  have HO : Hid (Own (w.alloc (Obj.cells #[vs, vp, .string t, .int .i64 c] 38)) lo hi vs vp (marks k n) (marksP (k + n) m)) := h.below hB0
  have HB0 : Hid (Below w.heap.size w (w.alloc (Obj.cells #[vs, vp, .string t, .int .i64 c] 38))) := hB0
  clear h hB0
  go_enter Try.func22, Try.ntmps22
  go_wp2_with (go_at_call 17; refine (heldDisk_own lo hi k n m vs vp _ HO.out h1 h2 hk).mono ?_; rintro e w1 ⟨rfl, hb1⟩)
  go_ret
  exact ⟨rfl, HB0.out.trans (hb1.mono HB0.out.size)⟩
end Go.Proofs.Ytgjbfngooiiceaa.Harn
