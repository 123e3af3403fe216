/- The program's look at the head of an area. -/
import Derived.Test.YtkigmpeanllimaaGreatDoorTextsE
import Derived.Test.YtkigmpeanllimaaGreatDoorImplUnseal
import Derived.Test.YtkigmpeanllimaaGreatDoorTextsC
namespace Go.Proofs.YtkigmpeanllimaaGreatDoor.Disk
open Go.RowKit Go.Proofs.YtkigmpeanllimaaGreatDoor.Mem Go.Proofs.YtkigmpeanllimaaGreatDoor.Harn Go.Proofs.YtkigmpeanllimaaGreatDoor.DiskP Go.Proofs.YtkigmpeanllimaaGreatDoor.Sent

/-- Whether the numbers fit. -/
def fitsB (g s n room : Int) : Bool := decide (0 ≤ g ∧ (0 ≤ s ∧ s ≤ 1) ∧ (0 ≤ n ∧ n ≤ room))
set_option maxRecDepth 100000 in
theorem fits_any (g s n room : Int) (w : World) :
    Calls Tryz.prog 74 #[headV g s n, .int .i64 room] w fun e w' => e = .returned (.bool (fitsB g s n room)) ∧ Below w.heap.size w w' := by
  have HB : Hid (∀ o, Below w.heap.size w (w.alloc o)) := fun o => bself o
  by_cases h1 : 0 ≤ g
  · by_cases h2 : s = 0
    · subst h2
      by_cases h4 : 0 ≤ n
      · by_cases h5 : n ≤ room
        · have HE : Hid (fitsB g 0 n room = true) := by simp [Hid, fitsB, h1, h4, h5]
          go_enter Tryz.func74, Tryz.ntmps74
          go_wp2
          go_ret
          exact ⟨by rw [HE.out]; rfl, HB.out _⟩
        · have HE : Hid (fitsB g 0 n room = false) := by simp [Hid, fitsB, h5]
          have h5d : decide (n ≤ room) = false := decide_eq_false h5
          go_enter Tryz.func74, Tryz.ntmps74
          go_wp2
          go_ret
          exact ⟨by rw [HE.out]; rfl, HB.out _⟩
      · have HE : Hid (fitsB g 0 n room = false) := by simp [Hid, fitsB, h4]
        have h4d : decide (0 ≤ n) = false := decide_eq_false h4
        go_enter Tryz.func74, Tryz.ntmps74
        go_wp2
        go_ret
        exact ⟨by rw [HE.out]; rfl, HB.out _⟩
    · have h2d : decide (s = 0) = false := decide_eq_false h2
      by_cases h3 : s = 1
      · subst h3
        by_cases h4 : 0 ≤ n
        · by_cases h5 : n ≤ room
          · have HE : Hid (fitsB g 1 n room = true) := by simp [Hid, fitsB, h1, h4, h5]
            clear h2 h2d
            go_enter Tryz.func74, Tryz.ntmps74
            go_wp2
            go_ret
            exact ⟨by rw [HE.out]; rfl, HB.out _⟩
          · have HE : Hid (fitsB g 1 n room = false) := by simp [Hid, fitsB, h5]
            have h5d : decide (n ≤ room) = false := decide_eq_false h5
            clear h2 h2d
            go_enter Tryz.func74, Tryz.ntmps74
            go_wp2
            go_ret
            exact ⟨by rw [HE.out]; rfl, HB.out _⟩
        · have HE : Hid (fitsB g 1 n room = false) := by simp [Hid, fitsB, h4]
          have h4d : decide (0 ≤ n) = false := decide_eq_false h4
          clear h2 h2d
          go_enter Tryz.func74, Tryz.ntmps74
          go_wp2
          go_ret
          exact ⟨by rw [HE.out]; rfl, HB.out _⟩
      · have h3d : decide (s = 1) = false := decide_eq_false h3
        have HE : Hid (fitsB g s n room = false) := by simp [Hid, fitsB]; omega
        go_enter Tryz.func74, Tryz.ntmps74
        go_wp2
        go_ret
        exact ⟨by rw [HE.out]; rfl, HB.out _⟩
  · have h1d : decide (0 ≤ g) = false := decide_eq_false h1
    have HE : Hid (fitsB g s n room = false) := by simp [Hid, fitsB, h1]
    go_enter Tryz.func74, Tryz.ntmps74
    go_wp2
    go_ret
    exact ⟨by rw [HE.out]; rfl, HB.out _⟩

/-- The error of a code. -/
def errOf (c : Int) : Option Nat := if c = 0 then none else if c = 1 then some 0 else if c = 3 then some 4 else if c = 4 then some 1 else some 2
theorem boxH_new {W u : World} {b : Nat} (hb : Below W.heap.size W u) (h : BoxH W b 0 0 0) (hb2 : b < W.heap.size) (o : Obj) : BoxH (u.alloc o) b 0 0 0 := Sha.row_alloc (BoxH.below h hb hb2) o
theorem belowH_set {w W : World} {b : Nat} (h : Below w.heap.size w W) (hb : w.heap.size ≤ b) (x y z : Value) : Below w.heap.size w (((W.setCell ⟨b, 0, none⟩ x).setCell ⟨b, 1, none⟩ y).setCell ⟨b, 2, none⟩ z) := ((h.setCell (p := ⟨b, 0, none⟩) hb _).setCell (p := ⟨b, 1, none⟩) hb _).setCell (p := ⟨b, 2, none⟩) hb _
theorem cellH_far {W : World} {b k o : Nat} {x y z : Value} (h : b ≠ k) : (((W.setCell ⟨b, 0, none⟩ x).setCell ⟨b, 1, none⟩ y).setCell ⟨b, 2, none⟩ z).cell? ⟨k, o, none⟩ = W.cell? ⟨k, o, none⟩ := by
  rw [World.cell?_setCell_other _ _ _ _ (by intro e; injection e with e _ _; exact h e), World.cell?_setCell_other _ _ _ _ (by intro e; injection e with e _ _; exact h e), World.cell?_setCell_other _ _ _ _ (by intro e; injection e with e _ _; exact h e)]

set_option maxRecDepth 100000 in
set_option maxHeartbeats 4000000 in
theorem readHead_any (A : Nat → Addr) (ls : List ByteArray) (lp : List (Int × ByteArray)) (h : ByteArray) (room : Int) (w : World) (hh : readD ls lp 0 = h) (hr : room = ((64 * halfN ls : Nat) : Int)) (hz : h.size ≤ 64) (hS : SentsLaid w A sentL) (hL : GetNum.Laid w) :
    Calls Tryz.prog 56 #[.string h, .int .i64 room] w fun e w' => e = .returned (.tuple #[headV (seenO ls lp).1 (seenO ls lp).2.1 (seenO ls lp).2.2.1, errV A (errOf (seenO ls lp).2.2.2)]) ∧ Below w.heap.size w w' := by
  subst hh
  obtain ⟨W0, hW0⟩ : ∃ W0, W0 = w.alloc (.cells #[.int .i64 0, .int .i64 0, .int .i64 0] 49) := ⟨_, rfl⟩
  have HB0 : Hid (Below w.heap.size w W0) := by rw [hW0]; exact bself _
  have HZ : Hid (W0.heap.size = w.heap.size + 1) := by rw [hW0]; simp [Hid]
  have HX : Hid (BoxH W0 w.heap.size 0 0 0) := by rw [hW0]; exact Sha.row_new w [.int .i64 0, .int .i64 0, .int .i64 0] 49
  have hz0 := HZ.out
  have HR : Hid (room = ((64 * halfN ls : Nat) : Int)) := hr
  clear hr
  have KE : Hid (∀ g ∈ sentL, ∀ W, Below w.heap.size w W → W.cell? ⟨g, 0, none⟩ = some (errV A (some g)) ∧ g < w.heap.size) := fun g hg W hb => ⟨(hb.cell (World.block_lt_of_cell? w _ (hS.v g hg))).trans (hS.v g hg), World.block_lt_of_cell? w _ (hS.v g hg)⟩
  by_cases h4 : (readD ls lp 0).size < 4
  · have HE : Hid (seenO ls lp = (0, 0, 0, 4)) := by unfold Hid seenO; rw [if_pos h4]
    have KU : Hid (∀ W, Calls Tryz.prog 72 #[.string (readD ls lp 0)] W fun e w' => e = .returned (.agg #[.string ByteArray.empty, .int .i64 0, .int .i64 4]) ∧ Below W.heap.size W w') := fun W => Unseal.implUnseal_short _ W h4
    clear h4 hz hS hL
    generalize readD ls lp 0 = h at *
    generalize seenO ls lp = sn at *
    go_enter Tryz.func56, Tryz.ntmps56
    go_wp2_with fail
    rw [← hW0]
    clear hW0
    refine (KU.out _).mono ?_
    rintro e u ⟨rfl, hb⟩
    have hzu := hb.size
    have hq : w.heap.size < u.heap.size := by omega
    obtain ⟨W1, hW1⟩ : ∃ W1, W1 = u.alloc (.cells #[.string ByteArray.empty, .int .i64 0, .int .i64 4] 102) := ⟨_, rfl⟩
    have HB1 : Hid (Below w.heap.size w W1) := by rw [hW1]; exact bA (bT HB0.out hb) _
    have HX1 : Hid (BoxH W1 w.heap.size 0 0 0) := by rw [hW1]; exact boxH_new hb HX.out (by omega) _
    obtain ⟨kE, hgE⟩ := KE.out 1 (by simp [sentL]) W1 HB1.out
    obtain ⟨x0, x1, x2, xf⟩ := BoxH.cells HX1.out
    have hzz : W1.heap.size = u.heap.size + 1 := by rw [hW1]; simp
    obtain ⟨ev, HEV⟩ : ∃ ev, Hid (errV A (some 1) = ev) := ⟨_, rfl⟩
    rw [HEV.out] at kE
    clear hb
    go_wp2_with fail
    rw [← hW1]
    clear hW1
    have kQ := kE
    clear kE
    go_region_held3 (fun W => W.cell? ⟨1, 0, none⟩ = some ev)
      (first
        | (exact (cellH_far (by omega)).trans kQ)
        | exact kQ)
      (fail)
    go_wp2_with fail
    refine bodyPost_ret (v := .tuple #[headV 0 0 0, ev]) (by simp [results, Tryz.results56, go_sem, x0, x1, x2]) rfl ⟨?_, ?_⟩
    · rw [HE.out, ← HEV.out]; rfl
    · exact bD (belowH_set HB1.out (Nat.le_refl _) _ _ _)
  cases hk : Unseal.okSeal (readD ls lp 0)
  · have HE : Hid (seenO ls lp = (0, 0, 0, 5)) := by unfold Hid seenO; rw [if_neg h4, if_pos hk]
    have KU : Hid (∀ W, Calls Tryz.prog 72 #[.string (readD ls lp 0)] W fun e w' => e = .returned (.agg #[.string ByteArray.empty, .int .i64 0, .int .i64 5]) ∧ Below W.heap.size W w') := fun W => by
      have := Unseal.implUnseal_in _ W (by omega : (readD ls lp 0).size ≤ 8000) (by omega)
      unfold Unseal.unsealV at this
      rw [hk] at this
      exact this
    clear hk h4 hz hS hL
    generalize readD ls lp 0 = h at *
    generalize seenO ls lp = sn at *
    go_enter Tryz.func56, Tryz.ntmps56
    go_wp2_with fail
    rw [← hW0]
    clear hW0
    refine (KU.out _).mono ?_
    rintro e u ⟨rfl, hb⟩
    have hzu := hb.size
    have hq : w.heap.size < u.heap.size := by omega
    obtain ⟨W1, hW1⟩ : ∃ W1, W1 = u.alloc (.cells #[.string ByteArray.empty, .int .i64 0, .int .i64 5] 102) := ⟨_, rfl⟩
    have HB1 : Hid (Below w.heap.size w W1) := by rw [hW1]; exact bA (bT HB0.out hb) _
    have HX1 : Hid (BoxH W1 w.heap.size 0 0 0) := by rw [hW1]; exact boxH_new hb HX.out (by omega) _
    obtain ⟨kE, hgE⟩ := KE.out 2 (by simp [sentL]) W1 HB1.out
    obtain ⟨x0, x1, x2, xf⟩ := BoxH.cells HX1.out
    have hzz : W1.heap.size = u.heap.size + 1 := by rw [hW1]; simp
    obtain ⟨ev, HEV⟩ : ∃ ev, Hid (errV A (some 2) = ev) := ⟨_, rfl⟩
    rw [HEV.out] at kE
    clear hb
    go_wp2_with fail
    rw [← hW1]
    clear hW1
    have kQ := kE
    clear kE
    go_region_held3 (fun W => W.cell? ⟨2, 0, none⟩ = some ev)
      (first
        | (exact (cellH_far (by omega)).trans kQ)
        | exact kQ)
      (fail)
    go_wp2_with fail
    refine bodyPost_ret (v := .tuple #[headV 0 0 0, ev]) (by simp [results, Tryz.results56, go_sem, x0, x1, x2]) rfl ⟨?_, ?_⟩
    · rw [HE.out, ← HEV.out]; rfl
    · exact bD (belowH_set HB1.out (Nat.le_refl _) _ _ _)
  · have KU : Hid (∀ W, Calls Tryz.prog 72 #[.string (readD ls lp 0)] W fun e w' => e = .returned (.agg #[.string ((readD ls lp 0).extract 0 ((readD ls lp 0).size - 4)), .int .i64 0, .int .i64 0]) ∧ Below W.heap.size W w') := fun W => by
      have := Unseal.implUnseal_in _ W (by omega : (readD ls lp 0).size ≤ 8000) (by omega)
      unfold Unseal.unsealV at this
      rw [hk] at this
      exact this
    have hts : ((readD ls lp 0).extract 0 ((readD ls lp 0).size - 4)).size ≤ 64 := by simp; omega
    have HSN : Hid (headNum ((readD ls lp 0).extract 0 ((readD ls lp 0).size - 4)) = none → seenO ls lp = (0, 0, 0, 3)) := fun h => by unfold seenO; rw [if_neg h4, if_neg (by rw [hk]; decide), h]
    have HSS : Hid (∀ g s n, headNum ((readD ls lp 0).extract 0 ((readD ls lp 0).size - 4)) = some (g, s, n) → seenO ls lp = if fitsB g s n room = true then (g, s, n, 0) else (0, 0, 0, 3)) := fun g s n h => by
      unfold seenO fitsB
      rw [if_neg h4, if_neg (by rw [hk]; decide), h, HR.out]
      simp only [decide_eq_true_eq]
    clear h4 hz hk
    generalize (readD ls lp 0).extract 0 ((readD ls lp 0).size - 4) = t at *
    have KH : Hid (∀ W, Below w.heap.size w W → Calls Tryz.prog 73 #[.string t] W fun e w' => (∃ g s n b, e = .returned (.tuple #[headV g s n, .bool b]) ∧ (b = true → headNum t = some (g, s, n)) ∧ (b = false → headNum t = none)) ∧ Below W.heap.size W w') := fun W hb => headNumbers_any t W (by omega) (GetNum.laid_below hL hb)
    clear hS hL hts
    generalize readD ls lp 0 = h at *
    generalize seenO ls lp = sn at *
    generalize headNum t = hn at *
    go_enter Tryz.func56, Tryz.ntmps56
    go_wp2_with fail
    rw [← hW0]
    clear hW0
    refine (KU.out _).mono ?_
    rintro e u ⟨rfl, hb⟩
    have hzu := hb.size
    obtain ⟨W1, hW1⟩ : ∃ W1, W1 = u.alloc (.cells #[.string t, .int .i64 0, .int .i64 0] 102) := ⟨_, rfl⟩
    have HB1 : Hid (Below w.heap.size w W1) := by rw [hW1]; exact bA (bT HB0.out hb) _
    have HX1 : Hid (BoxH W1 w.heap.size 0 0 0) := by rw [hW1]; exact boxH_new hb HX.out (by omega) _
    have HT1 : Hid (HasRow W1 u.heap.size [.string t, .int .i64 0, .int .i64 0] 102) := by rw [hW1]; exact Sha.row_new u _ _
    have hz1 : W1.heap.size = u.heap.size + 1 := by rw [hW1]; simp
    clear hb
    go_wp2_with fail
    rw [← hW1]
    clear hW1
    refine (KH.out _ HB1.out).mono ?_
    rintro e v ⟨⟨g, s, n, b, rfl, hb1, hb2⟩, hb⟩
    have hzv := hb.size
    obtain ⟨W2, hW2⟩ : ∃ W2, W2 = v.alloc (.cells #[.int .i64 g, .int .i64 s, .int .i64 n] 49) := ⟨_, rfl⟩
    have HB2 : Hid (Below w.heap.size w W2) := by rw [hW2]; exact bA (bT HB1.out hb) _
    have HX2 : Hid (BoxH W2 w.heap.size 0 0 0) := by rw [hW2]; exact boxH_new hb HX1.out (by omega) _
    have HY2 : Hid (BoxH W2 v.heap.size g s n) := by rw [hW2]; exact Sha.row_new v [.int .i64 g, .int .i64 s, .int .i64 n] 49
    have hz2 : W2.heap.size = v.heap.size + 1 := by rw [hW2]; simp
    obtain ⟨x0, x1, x2, xf⟩ := BoxH.cells HX2.out
    obtain ⟨ev, HEV⟩ : ∃ ev, Hid (errV A (some 4) = ev) := ⟨_, rfl⟩
    clear hb
    cases b
    · have HE : Hid (sn = (0, 0, 0, 3)) := HSN.out (hb2 rfl)
      obtain ⟨kE, hgE⟩ := KE.out 4 (by simp [sentL]) W2 HB2.out
      rw [HEV.out] at kE
      clear hb1 hb2
      go_wp2_with fail
      rw [← hW2]
      clear hW2
      have kQ := kE
      clear kE
      go_region_held3 (fun W => W.cell? ⟨4, 0, none⟩ = some ev)
        (first
          | (exact (cellH_far (by omega)).trans kQ)
          | exact kQ)
        (fail)
      go_wp2_with fail
      refine bodyPost_ret (v := .tuple #[headV 0 0 0, ev]) (by simp [results, Tryz.results56, go_sem, x0, x1, x2]) rfl ⟨?_, ?_⟩
      · rw [HE.out, ← HEV.out]; rfl
      · exact bD (belowH_set HB2.out (Nat.le_refl _) _ _ _)
    · have HE : Hid (sn = if fitsB g s n room = true then (g, s, n, 0) else (0, 0, 0, 3)) := HSS.out g s n (hb1 rfl)
      clear hb1 hb2
      go_wp2_with fail
      rw [← hW2]
      clear hW2
      have KF : Hid (∀ W, Calls Tryz.prog 74 #[headV g s n, .int .i64 room] W fun e w' => e = .returned (.bool (fitsB g s n room)) ∧ Below W.heap.size W w') := fun W => fits_any g s n room W
      generalize fitsB g s n room = fb at *
      refine (KF.out _).mono ?_
      rintro e y ⟨rfl, hb⟩
      have hzy := hb.size
      have HB3 : Hid (Below w.heap.size w y) := bT HB2.out hb
      have HX3 : Hid (BoxH y w.heap.size 0 0 0) := BoxH.below HX2.out hb (by omega)
      have HY3 : Hid (BoxH y v.heap.size g s n) := BoxH.below HY2.out hb (by omega)
      clear x0 x1 x2 xf
      obtain ⟨x0, x1, x2, xf⟩ := BoxH.cells HX3.out
      obtain ⟨y0, y1, y2, yf⟩ := BoxH.cells HY3.out
      clear hb
      cases fb
      · have HE2 : Hid (sn = (0, 0, 0, 3)) := HE.out
        obtain ⟨kE, hgE⟩ := KE.out 4 (by simp [sentL]) y HB3.out
        rw [HEV.out] at kE
        go_wp2_with fail
        have kQ := kE
        clear kE
        go_region_held3 (fun W => W.cell? ⟨4, 0, none⟩ = some ev)
          (first
            | (exact (cellH_far (by omega)).trans kQ)
            | exact kQ)
          (fail)
        go_wp2_with fail
        refine bodyPost_ret (v := .tuple #[headV 0 0 0, ev]) (by simp [results, Tryz.results56, go_sem, x0, x1, x2]) rfl ⟨?_, ?_⟩
        · rw [HE2.out, ← HEV.out]; rfl
        · exact bD (belowH_set HB3.out (Nat.le_refl _) _ _ _)
      · have HE2 : Hid (sn = (g, s, n, 0)) := HE.out
        go_wp2_with fail
        refine bodyPost_ret (v := .tuple #[headV g s n, .nilIface]) (by simp [results, Tryz.results56, go_sem, x0, x1, x2]) rfl ⟨?_, ?_⟩
        · rw [HE2.out]; rfl
        · exact belowH_set HB3.out (Nat.le_refl _) _ _ _
end Go.Proofs.YtkigmpeanllimaaGreatDoor.Disk
