/- What lwDisks answers on what is alike. -/
import Derived.Test.YtonmghpmgjfelaaLwDisk
import Derived.Test.YtonmghpmgjfelaaLawBase
namespace Go.Proofs.Ytonmghpmgjfelaa.Disk
open Go.RowKit Go.Proofs.Ytonmghpmgjfelaa.Mem Go.Proofs.Ytonmghpmgjfelaa.Harn

set_option maxRecDepth 100000 in
set_option maxHeartbeats 1000000 in
theorem lwDisks_any (vs vp us up : Value) (ls : List ByteArray) (lp : List (Int × ByteArray)) (t : ByteArray) (c : Int) (w : World) (hs : Strs w vs ls) (hp : Pends w vp lp) (ks : Strs w us ls) (kp : Pends w up lp) (hf : Fits ls lp) (hr : c = 0 → rightB ls lp = true) :
    Calls Try.prog 11 #[outV vs vp t c, outV us up t c] w fun e w' => e = .returned (.bool true) ∧ Below w.heap.size w w' := by
  obtain ⟨W0, hW0⟩ : ∃ W0, W0 = (w.alloc (Obj.cells #[vs, vp, .string t, .int .i64 c] 30)).alloc (Obj.cells #[us, up, .string t, .int .i64 c] 30) := ⟨_, rfl⟩
  have hB0 : Below w.heap.size w W0 := by rw [hW0]; exact ((Below.refl _ _).alloc (Nat.le_refl _) _).alloc (by simp) _
  have HB0 : Hid (Below w.heap.size w W0) := hB0
  have HX : Hid (BoxO W0 w.heap.size vs vp t c) := by rw [hW0]; exact BoxO.alloc (boxO_at w vs vp t c) _
  have HZ : Hid (W0.heap.size = w.heap.size + 2) := by rw [hW0]; simp [Hid]
  have K1 : Hid (Calls Try.prog 13 #[.agg #[vs, vp], .agg #[us, up]] W0 fun e w' => e = .returned (.bool true) ∧ Below W0.heap.size W0 w') := lwDisk_any vs vp us up ls lp W0 (Strs.below hs hB0) (Pends.below hp hB0) (Strs.below ks hB0) (Pends.below kp hB0) hf.n hf.m
  have K2 : Hid (∀ w1, Below W0.heap.size W0 w1 → Calls Try.prog 21 #[.agg #[vs, vp]] w1 fun e w' => e = .returned (.bool (rightB ls lp)) ∧ Below w1.heap.size w1 w') := fun w1 h => specRight_any vs vp ls lp w1 (Strs.below (Strs.below hs hB0) h) (Pends.below (Pends.below hp hB0) h) hf.n hf.m hf.t hf.y
  clear hs hp ks kp hB0
  by_cases hc : c = 0
  · have hce : (c == 0) = true := by simp [hc]
    have hcn : (c != 0) = false := by simp [hc]
    rw [hr hc] at K2
    have HC : Hid (c = 0) := hc
    clear hr hc
    go_enter Try.func11, Try.ntmps11
    go_wp2_with (first
      | (go_at_call 13; rw [← hW0]; refine K1.out.mono ?_; clear hW0; rintro e w1 ⟨rfl, hb1⟩; obtain ⟨x0, x1, x2, x3⟩ := BoxO.cells (BoxO.below HX.out hb1 (by have := HZ.out; omega)); have HB1 : Hid _ := hb1; clear hb1)
      | (go_at_call 21; refine (K2.out _ HB1.out).mono ?_; rintro e w2 ⟨rfl, hb2⟩))
    go_ret
    exact ⟨rfl, bT (bT HB0.out HB1.out) hb2⟩
  · have hce : (c == 0) = false := by simp [hc]
    have hcn : (c != 0) = true := by simp [hc]
    clear hr K2
    go_enter Try.func11, Try.ntmps11
    go_wp2_with (go_at_call 13; rw [← hW0]; refine K1.out.mono ?_; clear hW0; rintro e w1 ⟨rfl, hb1⟩; obtain ⟨x0, x1, x2, x3⟩ := BoxO.cells (BoxO.below HX.out hb1 (by have := HZ.out; omega)); have HB1 : Hid _ := hb1; clear hb1)
    go_ret
    exact ⟨rfl, bT HB0.out HB1.out⟩
end Go.Proofs.Ytonmghpmgjfelaa.Disk
