/- How much room a side of a disk has: the program and the model. -/
import Derived.Test.YtncooabjacpjbaaLawBase
namespace Go.Proofs.Ytncooabjacpjbaa.Disk
open Go.RowKit Go.Proofs.Ytncooabjacpjbaa.Mem Go.Proofs.Ytncooabjacpjbaa.Harn Go.Proofs.Ytncooabjacpjbaa.DiskP

/-- How many sectors a side has. -/
def halfN (ls : List ByteArray) : Nat := (ls.length - 1) / 2
/-- How many bytes a side has room for. -/
def roomN (ls : List ByteArray) (lp : List (Int × ByteArray)) : Nat := if rightB ls lp = true then 64 * halfN ls else 0

theorem quo2 (n : Nat) (h : 1 ≤ n) : ((n : Int) - 1).tdiv 2 = (((n - 1) / 2 : Nat) : Int) := by
  rw [Int.tdiv_eq_ediv_of_nonneg (by omega)]
  omega

set_option maxRecDepth 100000 in
set_option maxHeartbeats 1000000 in
theorem specHalf_any (vs vp : Value) (ls : List ByteArray) (w : World) (hs : Strs w vs ls) (h0 : 1 ≤ ls.length) (h1 : ls.length ≤ 1100000) :
    Calls Try.prog 19 #[.agg #[vs, vp]] w fun e w' => e = .returned (.int .i64 (halfN ls : Nat)) ∧ Below w.heap.size w w' := by
  obtain ⟨a, cap, rfl, _⟩ := hs
  have hq := quo2 ls.length h0
  have hh : halfN ls = (ls.length - 1) / 2 := rfl
  have HH : Hid (halfN ls = (ls.length - 1) / 2) := hh
  clear hh
  go_enter Try.func19, Try.ntmps19
  go_wp2
  go_ret
  exact ⟨by first | rfl | (rw [HH.out]; congr 2; omega), (Below.refl _ _).alloc (Nat.le_refl _) _⟩

set_option maxRecDepth 100000 in
set_option maxHeartbeats 1000000 in
theorem implSide_any (vs vp : Value) (ls : List ByteArray) (w : World) (hs : Strs w vs ls) (h0 : 1 ≤ ls.length) (h1 : ls.length ≤ 1100000) :
    Calls Try.prog 23 #[.agg #[vs, vp]] w fun e w' => e = .returned (.int .i64 (halfN ls : Nat)) ∧ Below w.heap.size w w' := by
  obtain ⟨a, cap, rfl, _⟩ := hs
  have hq := quo2 ls.length h0
  have hh : halfN ls = (ls.length - 1) / 2 := rfl
  have HH : Hid (halfN ls = (ls.length - 1) / 2) := hh
  clear hh
  go_enter Try.func23, Try.ntmps23
  go_wp2
  go_ret
  exact ⟨by first | rfl | (rw [HH.out]; congr 2; omega), (Below.refl _ _).alloc (Nat.le_refl _) _⟩

theorem roomN_no {ls : List ByteArray} {lp : List (Int × ByteArray)} (h : rightB ls lp = false) : roomN ls lp = 0 := by unfold roomN; rw [h]; rfl
theorem roomN_yes {ls : List ByteArray} {lp : List (Int × ByteArray)} (h : rightB ls lp = true) : roomN ls lp = 64 * halfN ls := by unfold roomN; rw [if_pos h]
theorem halfN_le {ls : List ByteArray} (h : ls.length ≤ 64) : halfN ls ≤ 31 := by unfold halfN; omega

set_option maxRecDepth 100000 in
set_option maxHeartbeats 1000000 in
theorem specRoom_any (vs vp : Value) (ls : List ByteArray) (lp : List (Int × ByteArray)) (w : World) (hs : Strs w vs ls) (hp : Pends w vp lp) (hf : Fits ls lp) :
    Calls Try.prog 6 #[.agg #[vs, vp]] w fun e w' => e = .returned (.int .i64 (roomN ls lp : Nat)) ∧ Below w.heap.size w w' := by
  obtain ⟨W0, hW0⟩ : ∃ W0, W0 = w.alloc (.cells #[vs, vp] 30) := ⟨_, rfl⟩
  have hB0 : Below w.heap.size w W0 := by rw [hW0]; exact bself _
  have HB0 : Hid (Below w.heap.size w W0) := hB0
  have HX : Hid (Box2 W0 w.heap.size vs vp) := by rw [hW0]; exact Sha.row_new w [vs, vp] 30
  have HZ : Hid (W0.heap.size = w.heap.size + 1) := by rw [hW0]; simp [Hid]
  have K1 : Hid (Calls Try.prog 18 #[.agg #[vs, vp]] W0 fun e w' => e = .returned (.bool (rightB ls lp)) ∧ Below W0.heap.size W0 w') := specRight_any vs vp ls lp W0 (hs.below hB0) (hp.below hB0) hf.n hf.m hf.t hf.y
  have HS : Hid (Strs W0 vs ls) := hs.below hB0
  clear hs hp hB0 hf
  cases hr : rightB ls lp
  · rw [roomN_no hr]
    rw [hr] at K1
    clear hr
    go_enter Try.func6, Try.ntmps6
    go_wp2_with (go_at_call 18; rw [← hW0]; clear hW0; refine K1.out.mono ?_; rintro e w1 ⟨rfl, hb1⟩; have HB1 : Hid _ := hb1; clear hb1)
    go_ret
    exact ⟨rfl, bT HB0.out HB1.out⟩
  · have hl := ((right_iff ls lp).1 hr).1
    have hl2 := ((right_iff ls lp).1 hr).2.1
    have h31 := halfN_le hl2
    rw [roomN_yes hr]
    rw [hr] at K1
    clear hr
    have K2 : Hid (∀ W, Below W0.heap.size W0 W → Calls Try.prog 19 #[.agg #[vs, vp]] W fun e w' => e = .returned (.int .i64 (halfN ls : Nat)) ∧ Below W.heap.size W w') := fun W hb => specHalf_any vs vp ls W (HS.out.below hb) hl (by omega)
    generalize halfN ls = hn at *
    go_enter Try.func6, Try.ntmps6
    go_wp2_with (first | (go_at_call 18; rw [← hW0]; clear hW0; refine K1.out.mono ?_; rintro e w1 ⟨rfl, hb1⟩; obtain ⟨x0, x1, _⟩ := Box2.cells (Box2.below HX.out hb1 (by have := HZ.out; omega)); have HB1 : Hid _ := hb1; clear hb1) | (go_at_call 19; refine (K2.out _ HB1.out).mono ?_; rintro e w2 ⟨rfl, hb2⟩; have HB2 : Hid _ := hb2; clear hb2))
    go_ret
    exact ⟨by go_num, bT (bT HB0.out HB1.out) HB2.out⟩

set_option maxRecDepth 100000 in
set_option maxHeartbeats 1000000 in
theorem implRoom_any (vs vp : Value) (ls : List ByteArray) (lp : List (Int × ByteArray)) (w : World) (hs : Strs w vs ls) (hp : Pends w vp lp) (hf : Fits ls lp) :
    Calls Try.prog 8 #[.agg #[vs, vp]] w fun e w' => e = .returned (.int .i64 (roomN ls lp : Nat)) ∧ Below w.heap.size w w' := by
  obtain ⟨W0, hW0⟩ : ∃ W0, W0 = w.alloc (.cells #[vs, vp] 30) := ⟨_, rfl⟩
  have hB0 : Below w.heap.size w W0 := by rw [hW0]; exact bself _
  have HB0 : Hid (Below w.heap.size w W0) := hB0
  have HX : Hid (Box2 W0 w.heap.size vs vp) := by rw [hW0]; exact Sha.row_new w [vs, vp] 30
  have HZ : Hid (W0.heap.size = w.heap.size + 1) := by rw [hW0]; simp [Hid]
  have K1 : Hid (Calls Try.prog 22 #[.agg #[vs, vp]] W0 fun e w' => e = .returned (.bool (rightB ls lp)) ∧ Below W0.heap.size W0 w') := implRight_any vs vp ls lp W0 (hs.below hB0) (hp.below hB0) hf.n hf.m hf.t hf.y
  have HS : Hid (Strs W0 vs ls) := hs.below hB0
  clear hs hp hB0 hf
  cases hr : rightB ls lp
  · rw [roomN_no hr]
    rw [hr] at K1
    clear hr
    go_enter Try.func8, Try.ntmps8
    go_wp2_with (go_at_call 22; rw [← hW0]; clear hW0; refine K1.out.mono ?_; rintro e w1 ⟨rfl, hb1⟩; have HB1 : Hid _ := hb1; clear hb1)
    go_ret
    exact ⟨rfl, bT HB0.out HB1.out⟩
  · have hl := ((right_iff ls lp).1 hr).1
    have hl2 := ((right_iff ls lp).1 hr).2.1
    have h31 := halfN_le hl2
    rw [roomN_yes hr]
    rw [hr] at K1
    clear hr
    have K2 : Hid (∀ W, Below W0.heap.size W0 W → Calls Try.prog 23 #[.agg #[vs, vp]] W fun e w' => e = .returned (.int .i64 (halfN ls : Nat)) ∧ Below W.heap.size W w') := fun W hb => implSide_any vs vp ls W (HS.out.below hb) hl (by omega)
    generalize halfN ls = hn at *
    go_enter Try.func8, Try.ntmps8
    go_wp2_with (first | (go_at_call 22; rw [← hW0]; clear hW0; refine K1.out.mono ?_; rintro e w1 ⟨rfl, hb1⟩; obtain ⟨x0, x1, _⟩ := Box2.cells (Box2.below HX.out hb1 (by have := HZ.out; omega)); have HB1 : Hid _ := hb1; clear hb1) | (go_at_call 23; refine (K2.out _ HB1.out).mono ?_; rintro e w2 ⟨rfl, hb2⟩; have HB2 : Hid _ := hb2; clear hb2))
    go_ret
    exact ⟨by go_num, bT (bT HB0.out HB1.out) HB2.out⟩
end Go.Proofs.Ytncooabjacpjbaa.Disk
