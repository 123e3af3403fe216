/- The program's next head. -/
import Derived.Test.YtkigmpeanllimaaGreatDoorImplArea
import Derived.Test.YtkigmpeanllimaaGreatDoorTextsG
import Derived.Test.YtkigmpeanllimaaGreatDoorTextsE
namespace Go.Proofs.YtkigmpeanllimaaGreatDoor.Disk
open Go.RowKit Go.Proofs.YtkigmpeanllimaaGreatDoor.Mem Go.Proofs.YtkigmpeanllimaaGreatDoor.Harn Go.Proofs.YtkigmpeanllimaaGreatDoor.DiskP Go.Proofs.YtkigmpeanllimaaGreatDoor.Sent

set_option maxRecDepth 100000 in
set_option maxHeartbeats 4000000 in
theorem nextHead_err (A : Nat → Addr) (vs vp : Value) (ls : List ByteArray) (lp : List (Int × ByteArray)) (tx : ByteArray) (g s n : Int) (t : ByteArray) (ge : Nat) (w : World) (hs : Strs w vs ls) (hp : Pends w vp lp) (hf : Fits ls lp) (hS : SentsLaid w A sentL) (hL : GetNum.Laid w) (hA : areaR ls lp = ((g, s, n), t, some ge)) :
    Calls Tryz.prog 29 #[.agg #[vs, vp], .string tx] w fun e w' => e = .returned (.tuple #[headV 0 0 0, .iface 157 (.pointer (some (A ge)))]) ∧ Below w.heap.size w w' := by
  obtain ⟨W0, hW0⟩ : ∃ W0, W0 = (w.alloc (.cells #[vs, vp] 26)).alloc (.cells #[.int .i64 0, .int .i64 0, .int .i64 0] 49) := ⟨_, rfl⟩
  have HB0 : Hid (Below w.heap.size w W0) := by rw [hW0]; exact bA (bself _) _
  have HZ : Hid (W0.heap.size = w.heap.size + 2) := by rw [hW0]; simp [Hid]
  have HH : Hid (BoxH W0 (w.heap.size + 1) 0 0 0) := by rw [hW0]; exact Sha.row_new_at (w.alloc _) [.int .i64 0, .int .i64 0, .int .i64 0] 49 _ (by simp)
  have K1 : Hid (Calls Tryz.prog 26 #[.agg #[vs, vp]] W0 fun e w' => e = .returned (.tuple #[headV g s n, .string t, .iface 157 (.pointer (some (A ge)))]) ∧ Below W0.heap.size W0 w') := by
    have h := readArea_any A vs vp ls lp W0 (hs.below HB0.out) (hp.below HB0.out) hf (hS.below HB0.out) (GetNum.laid_below hL HB0.out)
    rw [hA] at h
    exact h
  have hz0 := HZ.out
  clear hs hp hf hS hL hA
  go_enter Tryz.func29, Tryz.ntmps29
  go_wp2_with fail
  rw [← hW0]
  clear hW0
  refine K1.out.mono ?_
  rintro e u ⟨rfl, hb⟩
  have hzu := hb.size
  have hq : w.heap.size + 1 < u.heap.size := by omega
  have HBu : Hid (Below w.heap.size w u) := bT HB0.out hb
  obtain ⟨x0, x1, x2, xf⟩ := BoxH.cells (BoxH.below HH.out hb (by omega))
  clear hb
  go_wp2_with fail
  refine bodyPost_ret (v := .tuple #[headV 0 0 0, .iface 157 (.pointer (some (A ge)))]) (by simp [results, Tryz.results29, go_sem, x0, x1, x2, hq]) rfl ⟨rfl, ?_⟩
  exact bA (belowH_set HBu.out (by omega) _ _ _) _

set_option maxRecDepth 100000 in
set_option maxHeartbeats 4000000 in
theorem nextHead_ok (A : Nat → Addr) (vs vp : Value) (ls : List ByteArray) (lp : List (Int × ByteArray)) (tx : ByteArray) (g : Int) (s n : Nat) (t : ByteArray) (w : World) (hs : Strs w vs ls) (hp : Pends w vp lp) (hf : Fits ls lp) (hr : rightB ls lp = true) (hS : SentsLaid w A sentL) (hL : GetNum.Laid w) (hA : areaR ls lp = ((g, (s : Int), (n : Int)), t, none)) (hg : 0 ≤ g) (h1 : s ≤ 1) :
    Calls Tryz.prog 29 #[.agg #[vs, vp], .string tx] w fun e w' => e = .returned (if 64 * halfN ls < tx.size ∨ 1000000 ≤ g then .tuple #[headV 0 0 0, errV A (some 5)] else .tuple #[headV (g + 1) ((1 - s : Nat) : Int) tx.size, .nilIface]) ∧ Below w.heap.size w w' := by
  have hl64 := ((right_iff ls lp).1 hr).2.1
  have h31 := halfN_le hl64
  obtain ⟨W0, hW0⟩ : ∃ W0, W0 = (w.alloc (.cells #[vs, vp] 26)).alloc (.cells #[.int .i64 0, .int .i64 0, .int .i64 0] 49) := ⟨_, rfl⟩
  have HB0 : Hid (Below w.heap.size w W0) := by rw [hW0]; exact bA (bself _) _
  have HZ : Hid (W0.heap.size = w.heap.size + 2) := by rw [hW0]; simp [Hid]
  have HX : Hid (Box2 W0 w.heap.size vs vp) := by rw [hW0]; exact Sha.row_alloc (Sha.row_new w [vs, vp] 26) _
  have HH : Hid (BoxH W0 (w.heap.size + 1) 0 0 0) := by rw [hW0]; exact Sha.row_new_at (w.alloc _) [.int .i64 0, .int .i64 0, .int .i64 0] 49 _ (by simp)
  have HS : Hid (Strs W0 vs ls) := hs.below HB0.out
  have HP : Hid (Pends W0 vp lp) := hp.below HB0.out
  have HF : Hid (Fits ls lp) := hf
  have K1 : Hid (Calls Tryz.prog 26 #[.agg #[vs, vp]] W0 fun e w' => e = .returned (.tuple #[headV g s n, .string t, .nilIface]) ∧ Below W0.heap.size W0 w') := by
    have h := readArea_any A vs vp ls lp W0 HS.out HP.out hf (hS.below HB0.out) (GetNum.laid_below hL HB0.out)
    rw [hA] at h
    exact h
  have KR : Hid (∀ W, Below W0.heap.size W0 W → Calls Tryz.prog 15 #[.agg #[vs, vp]] W fun e w' => e = .returned (.int .i64 ((64 * halfN ls : Nat) : Int)) ∧ Below W.heap.size W w') := fun W hb => by
    have h := implRoom_any vs vp ls lp W (HS.out.below hb) (HP.out.below hb) HF.out
    rw [roomN_yes hr] at h
    exact h
  have KE : Hid (∀ W, Below w.heap.size w W → W.cell? ⟨5, 0, none⟩ = some (errV A (some 5)) ∧ 5 < w.heap.size) := fun W hb => ⟨(hb.cell (World.block_lt_of_cell? w _ (hS.v 5 (by simp [sentL])))).trans (hS.v 5 (by simp [sentL])), World.block_lt_of_cell? w _ (hS.v 5 (by simp [sentL]))⟩
  have hz0 := HZ.out
  obtain ⟨rm, hrm⟩ : ∃ rm, 64 * halfN ls = rm := ⟨_, rfl⟩
  rw [hrm] at KR ⊢
  have hrm2 : rm ≤ 2000 := by omega
  clear hs hp hf hS hL hA hrm h31
  have e1 : (((1 - s : Nat) : Int)) = 1 - (s : Int) := by omega
  rw [e1]
  clear e1
  generalize errV A (some 5) = ev at *
  obtain ⟨ov, HOV⟩ : ∃ ov, Hid ((if rm < tx.size ∨ 1000000 ≤ g then Value.tuple #[headV 0 0 0, ev] else .tuple #[headV (g + 1) (1 - (s : Int)) tx.size, .nilIface]) = ov) := ⟨_, rfl⟩
  rw [HOV.out]
  go_enter Tryz.func29, Tryz.ntmps29
  go_wp2_with fail
  rw [← hW0]
  clear hW0
  refine K1.out.mono ?_
  rintro e u ⟨rfl, hb⟩
  have hzu := hb.size
  obtain ⟨W1, hW1⟩ : ∃ W1, W1 = u.alloc (.cells #[.int .i64 g, .int .i64 (s : Int), .int .i64 (n : Int)] 49) := ⟨_, rfl⟩
  have HB1 : Hid (Below W0.heap.size W0 W1) := by rw [hW1]; exact bA hb _
  have HY1 : Hid (BoxH W1 u.heap.size g s n) := by rw [hW1]; exact Sha.row_new u [.int .i64 g, .int .i64 (s : Int), .int .i64 (n : Int)] 49
  have hz1 : W1.heap.size = u.heap.size + 1 := by rw [hW1]; simp
  obtain ⟨x0, x1, _⟩ := Box2.cells (Box2.below HX.out hb (by omega))
  have hq2 : w.heap.size < u.heap.size := by omega
  clear hb
  go_wp2_with fail
  rw [← hW1]
  clear hW1 x0 x1
  refine (KR.out _ HB1.out).mono ?_
  rintro e v ⟨rfl, hb⟩
  have hzv := hb.size
  have HBv : Hid (Below w.heap.size w v) := bT (bT HB0.out HB1.out) hb
  obtain ⟨x0, x1, x2, xf⟩ := BoxH.cells (BoxH.below HH.out (bT HB1.out hb) (by omega))
  obtain ⟨y0, y1, y2, yf⟩ := BoxH.cells (BoxH.below HY1.out hb (by omega))
  obtain ⟨kQ, hgE⟩ := KE.out v HBv.out
  clear hb
  by_cases hbig : rm < tx.size
  · have HO2 : Hid (ov = .tuple #[headV 0 0 0, ev]) := by have h := HOV.out; rw [if_pos (.inl hbig)] at h; exact h.symm
    have hd : (rm : Int) < (tx.size : Int) := by omega
    go_wp2_with fail
    go_region_held3 (fun W => W.cell? ⟨5, 0, none⟩ = some ev)
      (first
        | (exact (cellH_far (by omega)).trans kQ)
        | exact kQ)
      (fail)
    go_wp2_with fail
    refine bodyPost_ret (v := .tuple #[headV 0 0 0, ev]) (by simp [results, Tryz.results29, go_sem, x0, x1, x2]) rfl ⟨by rw [HO2.out], ?_⟩
    exact bD (belowH_set HBv.out (by omega) _ _ _)
  · have hd : ¬ (rm : Int) < (tx.size : Int) := by omega
    by_cases hgm : 1000000 ≤ g
    · have HO2 : Hid (ov = .tuple #[headV 0 0 0, ev]) := by have h := HOV.out; rw [if_pos (.inr hgm)] at h; exact h.symm
      go_wp2_with fail
      go_region_held3 (fun W => W.cell? ⟨5, 0, none⟩ = some ev)
        (first
          | (exact (cellH_far (by omega)).trans kQ)
          | exact kQ)
        (fail)
      go_wp2_with fail
      refine bodyPost_ret (v := .tuple #[headV 0 0 0, ev]) (by simp [results, Tryz.results29, go_sem, x0, x1, x2]) rfl ⟨by rw [HO2.out], ?_⟩
      exact bD (belowH_set HBv.out (by omega) _ _ _)
    · have HO2 : Hid (ov = .tuple #[headV (g + 1) (1 - (s : Int)) tx.size, .nilIface]) := by have h := HOV.out; rw [if_neg (by rintro (h | h) <;> omega)] at h; exact h.symm
      have hgd : decide (1000000 ≤ g) = false := by simpa using hgm
      go_wp2_with fail
      refine bodyPost_ret (v := .tuple #[headV (g + 1) (1 - (s : Int)) tx.size, .nilIface]) (by simp [results, Tryz.results29, go_sem, x0, x1, x2]) rfl ⟨by rw [HO2.out], ?_⟩
      exact belowH_set HBv.out (by omega) _ _ _
end Go.Proofs.YtkigmpeanllimaaGreatDoor.Disk
