/- The laws' functions on disks of the call's own, and on what the disk's functions tell. -/
import Derived.Test.YtncooabjacpjbaaOwnDisk
namespace Go.Proofs.Ytncooabjacpjbaa.Harn
open Go.RowKit Go.Proofs.Ytncooabjacpjbaa.Mem Go.Proofs.Ytncooabjacpjbaa.Mark

set_option maxHeartbeats 1000000 in
theorem markDisk_own (lo hi k : Nat) (vs vp : Value) (ls : List ByteArray) (lp : List (Int × ByteArray)) (w : World) (h : Own w lo hi vs vp ls lp) (hhi : hi ≤ w.heap.size) (h1 : ls.length ≤ 1100000) (h2 : lp.length ≤ 1100000) (hk : k ≤ 10000000) :
    Calls Try.prog 13 #[.agg #[vs, vp], .int .i64 (k : Int)] w fun e w' => e = .returned (.int .i64 ((k + ls.length + 2 * lp.length : Nat) : Int)) ∧ Own w' lo hi vs vp (marks k ls.length) (marksP (k + ls.length) lp.length) ∧ Only (fun b => lo ≤ b ∧ b < hi) w w' := by
  obtain ⟨va, cs, vb, cp, gs, os, gp, op, rfl, rfl, a1, a2, a3, a4, a5⟩ := h
  obtain ⟨W0, hW0⟩ : ∃ W0, W0 = w.alloc (Obj.cells #[.slice va ls.length cs, .slice vb lp.length cp] 30) := ⟨_, rfl⟩
  have hB0 : Below w.heap.size w W0 := by rw [hW0]; exact (Below.refl _ _).alloc (Nat.le_refl _) _
  have HB0 : Hid (Below w.heap.size w W0) := hB0
  have HS : Hid (StrsAt W0 gs os ls) := StrsAt.below a2 hB0
  have HP : Hid (PendsAt W0 gp op lp) := PendsAt.below a4 hB0
  have HA1 : Hid (ls.length = 0 ∨ (va = some ⟨gs, os, none⟩ ∧ lo ≤ gs ∧ gs < hi)) := a1
  have HA3 : Hid (lp.length = 0 ∨ (vb = some ⟨gp, op, none⟩ ∧ lo ≤ gp ∧ gp < hi)) := a3
  have HA5 : Hid (gs ≠ gp ∨ ls.length = 0 ∨ lp.length = 0) := a5
  clear a1 a2 a3 a4 a5 hB0
  rw [hW0] at HS HP HB0
  clear hW0 W0
  go_enter Try.func13, Try.ntmps13
  have A1 : Hid (∀ w1, Only (fun b => b = gs ∧ ls.length ≠ 0) (w.alloc (Obj.cells #[.slice va ls.length cs, .slice vb lp.length cp] 30)) w1 → w1.cell? ⟨w.heap.size, 1, none⟩ = some (.slice vb lp.length cp)) := fun w1 hg => by
    rw [hg.cell (by simp) (by rintro ⟨e, h0⟩; have := HA1.out.resolve_left h0; simp at e; omega)]
    exact Mem.cell_of_row (Sha.row_new w [.slice va ls.length cs, .slice vb lp.length cp] 30) 1
  go_wp2_with (first
    | (go_at_call 32; refine (markStr_opt gs os cs k va ls _ (HA1.out.imp id (·.1)) HS.out h1 (by omega)).mono ?_; rintro e w1 ⟨rfl, hs1, hg1⟩; have a1 := A1.out w1 hg1; have HS1 : Hid _ := hs1; have HG1 : Hid _ := hg1; clear hs1 hg1)
    | (go_at_call 33; refine (markPend_opt gp op cp (k + ls.length) vb lp _ (HA3.out.imp id (·.1)) (PendsAt.only HP.out HG1.out (by rcases HA5.out with h | h | h; exact .inr (fun e => h e.1.symm); exact .inr (fun e => e.2 h); exact .inl h)) h2 (by omega)).mono ?_; rintro e w2 ⟨rfl, hs2, hg2⟩; have HS2 : Hid _ := hs2; have HG2 : Hid _ := hg2; clear hs2 hg2))
  go_ret
  refine ⟨rfl, ?_, ?_⟩
  · refine ⟨va, cs, vb, cp, gs, os, gp, op, by rw [length_marks], by rw [length_marksP], by rw [length_marks]; exact HA1.out, StrsAt.only HS1.out HG2.out ?_, by rw [length_marksP]; exact HA3.out, HS2.out, by rw [length_marks, length_marksP]; exact HA5.out⟩
    rw [length_marks]
    rcases HA5.out with h | h | h
    · exact .inr (fun e => h e.1)
    · exact .inl h
    · exact .inr (fun e => e.2 h)
  · refine ((Only.of_below _ HB0.out).trans (HG1.out.mono ?_)).trans (HG2.out.mono ?_)
    · rintro b ⟨rfl, h0⟩
      exact (HA1.out.resolve_left h0).2
    · rintro b ⟨rfl, h0⟩
      exact (HA3.out.resolve_left h0).2

theorem heldDisk_own (lo hi k n m : Nat) (vs vp : Value) (w : World) (h : Own w lo hi vs vp (marks k n) (marksP (k + n) m)) (h1 : n ≤ 1100000) (h2 : m ≤ 1100000) (hk : k ≤ 10000000) :
    Calls Try.prog 34 #[.agg #[vs, vp], .int .i64 (k : Int)] w fun e w' => e = .returned (.int .i64 ((k + n + 2 * m : Nat) : Int)) ∧ Below w.heap.size w w' :=
  heldDisk_any vs vp k n m w h.strs h.pends h1 h2 hk

/-! ### what the disk's functions tell -/
/-- What is told, as a value. -/
abbrev outV (vs vp : Value) (t : ByteArray) (c : Int) : Value := .agg #[vs, vp, .string t, .int .i64 c]

end Go.Proofs.Ytncooabjacpjbaa.Harn
