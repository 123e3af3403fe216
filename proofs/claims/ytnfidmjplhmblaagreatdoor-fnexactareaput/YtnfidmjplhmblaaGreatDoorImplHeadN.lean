/- The program's look at the numbers of a head, and whether they fit. -/
import Derived.Test.YtnfidmjplhmblaaGreatDoorImplGetNum
import Derived.Test.YtnfidmjplhmblaaGreatDoorTextsH
import Derived.Test.YtnfidmjplhmblaaGreatDoorTextsA
namespace Go.Proofs.YtnfidmjplhmblaaGreatDoor.Disk
open Go.RowKit Go.Proofs.YtnfidmjplhmblaaGreatDoor.Mem Go.Proofs.YtnfidmjplhmblaaGreatDoor.Harn Go.Proofs.YtnfidmjplhmblaaGreatDoor.DiskP

/-- The number that is told, 0 beside a code. -/
def nAt (s : ByteArray) (p : Nat) : Int := if (GetNum.rd s p).1 = 0 then GetNum.unfoldI (GetNum.rd s p).2.1 else 0
theorem nAt_bd (s : ByteArray) (p : Nat) : -9223372036854775808 ≤ nAt s p ∧ nAt s p ≤ 9223372036854775807 ∧ ((GetNum.rd s p).2.2 ≤ s.size) := by
  unfold nAt
  rcases GetNum.rd_cases s p with ⟨y, q, h, h1, h2⟩ | h | h <;> rw [h]
  · have := GetNum.unfold_bd h1
    exact ⟨this.1, this.2, h2⟩
  · exact ⟨by decide, by decide, by simp⟩
  · exact ⟨by decide, by decide, by simp⟩
theorem implNum_at (s : ByteArray) (m : Nat) (w : World) (hs : s.size ≤ 8000) (hm : m ≤ s.size) (hL : GetNum.Laid w) :
    Calls Tryz.prog 86 #[.string s, .int .i64 (m : Int)] w fun e w' => e = .returned (.agg #[.int .i64 (nAt s m), .int .i64 ((GetNum.rd s m).2.2 : Nat), .int .i64 ((GetNum.rd s m).1 : Nat)]) ∧ Below w.heap.size w w' := by
  have hs' : (s.size : Int) ≤ 8000 := by omega
  have h2 : (m : Int) ≤ 9223372036854775807 := by omega
  unfold nAt
  rcases GetNum.rd_cases s m with ⟨y, q, hr, hy, hq⟩ | hr | hr
  · rw [hr]
    refine GetNum.implGetNum_ok s m w y q hs' (by omega) (fun w => ?_)
    have := GetNum.readNum_in s m w hs' h2
    rwa [GetNum.readV_ok hr] at this
  all_goals
    have hne : (GetNum.rd s m).1 ≠ 0 := by rw [hr]; decide
    have := GetNum.implGetNum_code s m w (GetNum.rd s m).1 hs' hL (fun w => by have := GetNum.readNum_in s m w hs' h2; rwa [GetNum.readV_code hne] at this)
    rw [hr] at this ⊢
    exact this

/-- Where the numbers stand. -/
def posN (s : ByteArray) : Nat → Nat
  | 0 => 0
  | k + 1 => (GetNum.rd s (posN s k)).2.2
theorem posN_le (s : ByteArray) (k : Nat) : posN s k ≤ s.size := by
  cases k with
  | zero => exact Nat.zero_le _
  | succ k => exact (nAt_bd s (posN s k)).2.2
def codN (s : ByteArray) (k : Nat) : Nat := (GetNum.rd s (posN s k)).1
def numN (s : ByteArray) (k : Nat) : Int := nAt s (posN s k)
theorem headNum_none {s : ByteArray} {k : Nat} (hk : k < 3) (h : codN s k ≠ 0) : headNum s = none := by
  unfold headNum
  rw [if_neg]
  rintro ⟨h1, h2, h3, _⟩
  have hc : k = 0 ∨ k = 1 ∨ k = 2 := by omega
  rcases hc with rfl | rfl | rfl
  · exact h h1
  · exact h h2
  · exact h h3
theorem headNum_three {s : ByteArray} (h : ∀ j, j < 3 → codN s j = 0) : headNum s = if posN s 3 = s.size then some (numN s 0, numN s 1, numN s 2) else none := by
  have h0 : (GetNum.rd s 0).1 = 0 := h 0 (by omega)
  have h1 : (GetNum.rd s (GetNum.rd s 0).2.2).1 = 0 := h 1 (by omega)
  have h2 : (GetNum.rd s (GetNum.rd s (GetNum.rd s 0).2.2).2.2).1 = 0 := h 2 (by omega)
  have e0 : numN s 0 = GetNum.unfoldI (GetNum.rd s 0).2.1 := if_pos h0
  have e1 : numN s 1 = GetNum.unfoldI (GetNum.rd s (GetNum.rd s 0).2.2).2.1 := if_pos h1
  have e2 : numN s 2 = GetNum.unfoldI (GetNum.rd s (GetNum.rd s (GetNum.rd s 0).2.2).2.2).2.1 := if_pos h2
  rw [e0, e1, e2]
  have e3 : posN s 3 = (GetNum.rd s (GetNum.rd s (GetNum.rd s 0).2.2).2.2).2.2 := rfl
  rw [e3]
  unfold headNum
  by_cases hq : (GetNum.rd s (GetNum.rd s (GetNum.rd s 0).2.2).2.2).2.2 = s.size
  · rw [if_pos ⟨h0, h1, h2, hq⟩, if_pos hq]
  · rw [if_neg (fun x => hq x.2.2.2), if_neg hq]
/-- The array of the numbers, the first k laid. -/
def rowN (f : Nat → Int) (k : Nat) : List Value := [.int .i64 (if 0 < k then f 0 else 0), .int .i64 (if 1 < k then f 1 else 0), .int .i64 (if 2 < k then f 2 else 0)]
theorem rowN_set (f : Nat → Int) (k : Nat) (hk : k < 3) : (rowN f k).set k (.int .i64 (f k)) = rowN f (k + 1) := by
  have hc : k = 0 ∨ k = 1 ∨ k = 2 := by omega
  rcases hc with rfl | rfl | rfl <;> rfl
theorem rowN_cells {W : World} {g : Nat} {f : Nat → Int} {T : TypeId} (h : HasRow W g (rowN f 3) T) : W.cell? ⟨g, 0, none⟩ = some (.int .i64 (f 0)) ∧ W.cell? ⟨g, 1, none⟩ = some (.int .i64 (f 1)) ∧ W.cell? ⟨g, 2, none⟩ = some (.int .i64 (f 2)) := ⟨Mem.cell_of_row h 0, Mem.cell_of_row h 1, Mem.cell_of_row h 2⟩
abbrev headV (g s n : Int) : Value := .agg #[.int .i64 g, .int .i64 s, .int .i64 n]
def BoxH (W : World) (b : Nat) (g s n : Int) : Prop := HasRow W b [.int .i64 g, .int .i64 s, .int .i64 n] 58
theorem BoxH.cells {W : World} {b : Nat} {g s n : Int} (h : BoxH W b g s n) : W.cell? ⟨b, 0, none⟩ = some (.int .i64 g) ∧ W.cell? ⟨b, 1, none⟩ = some (.int .i64 s) ∧ W.cell? ⟨b, 2, none⟩ = some (.int .i64 n) ∧ (∀ o, W.frozen? ⟨b, o, none⟩ = false) := ⟨Mem.cell_of_row h 0, Mem.cell_of_row h 1, Mem.cell_of_row h 2, Mem.frozen_of_row h⟩
theorem BoxH.below {W W' : World} {b B : Nat} {g s n : Int} (h : BoxH W b g s n) (hb : Below B W W') (hg : b < B) : BoxH W' b g s n := Sha.row_below h hb hg

set_option maxRecDepth 100000 in
set_option maxHeartbeats 2000000 in
theorem headNumbers_any (t : ByteArray) (w : World) (ht : t.size ≤ 8000) (hL : GetNum.Laid w) :
    Calls Tryz.prog 77 #[.string t] w fun e w' => (∃ g s n b, e = .returned (.tuple #[headV g s n, .bool b]) ∧ (b = true → headNum t = some (g, s, n)) ∧ (b = false → headNum t = none)) ∧ Below w.heap.size w w' := by
  obtain ⟨W0, hW0⟩ : ∃ W0, W0 = (w.alloc (.cells #[.int .i64 0, .int .i64 0, .int .i64 0] 58)).alloc (.cells #[.int .i64 0, .int .i64 0, .int .i64 0] 134) := ⟨_, rfl⟩
  have HB0 : Hid (Below w.heap.size w W0) := by rw [hW0]; exact bA (bself _) _
  have HZ : Hid (W0.heap.size = w.heap.size + 2) := by rw [hW0]; simp [Hid]
  have HX : Hid (BoxH W0 w.heap.size 0 0 0) := by rw [hW0]; exact Sha.row_alloc (Sha.row_new w [.int .i64 0, .int .i64 0, .int .i64 0] 58) _
  have HY : Hid (HasRow W0 (w.heap.size + 1) (rowN (numN t) 0) 134) := by rw [hW0]; exact Sha.row_new_at (w.alloc _) [.int .i64 0, .int .i64 0, .int .i64 0] 134 _ (by simp)
  have KN : Hid (∀ k W, Below w.heap.size w W → Calls Tryz.prog 86 #[.string t, .int .i64 (posN t k : Nat)] W fun e w' => e = .returned (.agg #[.int .i64 (numN t k), .int .i64 (posN t (k + 1) : Nat), .int .i64 (codN t k : Nat)]) ∧ Below W.heap.size W w') := fun k W hb => implNum_at t (posN t k) W ht (posN_le t k) (GetNum.laid_below hL hb)
  have HE1 : Hid (∀ k, k < 3 → codN t k ≠ 0 → headNum t = none) := fun k hk h => headNum_none hk h
  have HE2 : Hid ((∀ j, j < 3 → codN t j = 0) → headNum t = if posN t 3 = t.size then some (numN t 0, numN t 1, numN t 2) else none) := headNum_three
  have HPL : Hid (∀ k, posN t k ≤ t.size) := posN_le t
  clear hL
  have hp0 : posN t 0 = 0 := rfl
  generalize posN t = ps at *
  generalize codN t = cs at *
  generalize numN t = ns at *
  generalize headNum t = hd at *
  go_enter Tryz.func77, Tryz.ntmps77
  go_wp2_with fail
  rw [← hW0]
  clear hW0
  have hz0 := HZ.out
  go_loopw [5, 8] (fun p i W => ∃ k : Nat, k ≤ 3 ∧ i = .int .i64 k ∧ p = .int .i64 (ps k : Nat) ∧ Hid (∀ j, j < k → cs j = 0) ∧ Hid (BoxH W w.heap.size 0 0 0) ∧ Hid (HasRow W (w.heap.size + 1) (rowN ns k) 134) ∧ Hid (Below w.heap.size w W) ∧ w.heap.size + 2 ≤ W.heap.size) (fun _ i _ => 3 - (intOf i).toNat)
  case atStart => exact ⟨0, by omega, rfl, by rw [hp0]; rfl, fun j hj => by omega, HX.out, HY.out, HB0.out, by omega⟩
  case round =>
    obtain ⟨k, hk, rfl, rfl, HC, HBX, HBY, HBB, hzr⟩ := hrel
    clear HX HY HB0
    by_cases hlt : k < 3
    · have hlt2 : (k : Int) < 3 := by omega
      have h3b : (3 : Int) - 0 = 3 := rfl
      go_wp2_with fail
      refine (KN.out k _ HBB.out).mono ?_
      rintro e u ⟨rfl, hb⟩
      have hzu := hb.size
      have HBX2 : Hid (BoxH u w.heap.size 0 0 0) := BoxH.below HBX.out hb (by omega)
      have HBY2 : Hid (HasRow u (w.heap.size + 1) (rowN ns k) 134) := Sha.row_below HBY.out hb (by omega)
      have HB2 : Hid (Below w.heap.size w u) := bT HBB.out hb
      have hPL := HPL.out (k + 1)
      clear HBX HBY HBB hb
      by_cases hc : cs k = 0
      · have hcb : ((cs k : Int) != 0) = false := by simp [hc]
        obtain ⟨W1, hW1⟩ : ∃ W1, W1 = u.alloc (.cells #[.int .i64 (ns k), .int .i64 (ps (k + 1) : Nat), .int .i64 (cs k : Nat)] 83) := ⟨_, rfl⟩
        have hzz : W1.heap.size = u.heap.size + 1 := by rw [hW1]; simp
        have HN1 : Hid (HasRow W1 u.heap.size [.int .i64 (ns k), .int .i64 (ps (k + 1) : Nat), .int .i64 (cs k : Nat)] 83) := by rw [hW1]; exact Sha.row_new u _ _
        have HBX3 : Hid (BoxH W1 w.heap.size 0 0 0) := by rw [hW1]; exact Sha.row_alloc HBX2.out _
        have HBY3 : Hid (HasRow W1 (w.heap.size + 1) (rowN ns k) 134) := by rw [hW1]; exact Sha.row_alloc HBY2.out _
        have HB3 : Hid (Below w.heap.size w W1) := by rw [hW1]; exact bA HB2.out _
        have n0 : W1.cell? ⟨u.heap.size, 0, none⟩ = some (.int .i64 (ns k)) := Mem.cell_of_row HN1.out 0
        have n1 : W1.cell? ⟨u.heap.size, 1, none⟩ = some (.int .i64 (ps (k + 1) : Nat)) := Mem.cell_of_row HN1.out 1
        have n2 : W1.cell? ⟨u.heap.size, 2, none⟩ = some (.int .i64 (cs k : Nat)) := Mem.cell_of_row HN1.out 2
        have yf : ∀ o, W1.frozen? ⟨w.heap.size + 1, o, none⟩ = false := Mem.frozen_of_row HBY3.out
        have yk : ∃ z, W1.cell? ⟨w.heap.size + 1, k, none⟩ = some z := by
          have hc3 : k = 0 ∨ k = 1 ∨ k = 2 := by omega
          rcases hc3 with rfl | rfl | rfl
          · exact ⟨_, Mem.cell_of_row HBY3.out 0⟩
          · exact ⟨_, Mem.cell_of_row HBY3.out 1⟩
          · exact ⟨_, Mem.cell_of_row HBY3.out 2⟩
        obtain ⟨z, yk⟩ := yk
        have HCK : Hid (cs k = 0) := hc
        clear hc
        go_wp2_with fail
        rw [← hW1]
        clear hW1
        have kQ : W1.cell? ⟨u.heap.size, 0, none⟩ = some (.int .i64 (ns k)) ∧ W1.cell? ⟨u.heap.size, 1, none⟩ = some (.int .i64 (ps (k + 1) : Nat)) := ⟨n0, n1⟩
        clear n0 n1
        go_region_held3 (fun W => W.cell? ⟨u.heap.size, 0, none⟩ = some (.int .i64 (ns k)) ∧ W.cell? ⟨u.heap.size, 1, none⟩ = some (.int .i64 (ps (k + 1) : Nat)))
          (first
            | (refine ⟨(World.cell?_setCell_other W1 _ _ _ (by intro e; injection e with e _ _; omega)).trans kQ.1, (World.cell?_setCell_other W1 _ _ _ (by intro e; injection e with e _ _; omega)).trans kQ.2⟩)
            | exact kQ)
          (fail)
        go_wp2_with fail
        go_roundw
        case rel =>
          refine ⟨k + 1, by omega, by go_num, rfl, fun j hj => ?_, ?_, ?_, ?_, by simp; omega⟩
          · by_cases h : j = k
            · rw [h]; exact HCK.out
            · exact HC.out j (by omega)
          · exact Sha.row_drewN (Sha.row_other HBX3.out _ _ (by simp)) 1
          · have := row_set HBY3.out k (.int .i64 (ns k))
            rw [rowN_set ns k hlt] at this
            exact Sha.row_drewN this 1
          · exact bD (HB3.out.setCell (p := ⟨w.heap.size + 1, k, none⟩) (by simp) _)
        case measure => simp [intOf]; omega
      · have hcb : ((cs k : Int) != 0) = true := by simp; omega
        obtain ⟨x0, x1, x2, xf⟩ := BoxH.cells HBX2.out
        have hq : w.heap.size < u.heap.size := by omega
        have HNN : Hid _ := HE1.out k hlt hc
        clear hc
        go_wp2_with fail
        refine bodyPost_ret (v := .tuple #[headV 0 0 0, .bool false]) (by simp [results, Tryz.results77, go_sem, x0, x1, x2, hq]) rfl ⟨⟨0, 0, 0, false, rfl, fun h => absurd h (by decide), fun _ => HNN.out⟩, ?_⟩
        exact bA (((HB2.out.setCell (p := ⟨w.heap.size, 0, none⟩) (Nat.le_refl _) _).setCell (p := ⟨w.heap.size, 1, none⟩) (Nat.le_refl _) _).setCell (p := ⟨w.heap.size, 2, none⟩) (Nat.le_refl _) _) _
    · have e : k = 3 := by omega
      subst e
      obtain ⟨x0, x1, x2, xf⟩ := BoxH.cells HBX.out
      obtain ⟨y0, y1, y2⟩ := rowN_cells HBY.out
      have hPL := HPL.out 3
      have HE : Hid _ := HE2.out HC.out
      have HBR : Hid (∀ (a b c : Value), Below w.heap.size w (((wr.setCell ⟨w.heap.size, 0, none⟩ a).setCell ⟨w.heap.size, 1, none⟩ b).setCell ⟨w.heap.size, 2, none⟩ c)) := fun a b c => ((HBB.out.setCell (p := ⟨w.heap.size, 0, none⟩) (Nat.le_refl _) _).setCell (p := ⟨w.heap.size, 1, none⟩) (Nat.le_refl _) _).setCell (p := ⟨w.heap.size, 2, none⟩) (Nat.le_refl _) _
      by_cases he : ps 3 = t.size
      · have he2 : decide ((ps 3 : Int) = (t.size : Int)) = true := by simp [he]
        go_wp2_with fail
        exact bodyPost_ret (v := .tuple #[headV (ns 0) (ns 1) (ns 2), .bool true]) (by simp [results, Tryz.results77, go_sem, x0, x1, x2]) rfl ⟨⟨ns 0, ns 1, ns 2, true, rfl, fun _ => by rw [HE.out, if_pos he], fun h => absurd h (by decide)⟩, HBR.out _ _ _⟩
      · have he3 : ¬ (ps 3 : Int) = (t.size : Int) := by omega
        have he2 : decide ((ps 3 : Int) = (t.size : Int)) = false := by simpa using he3
        go_wp2_with fail
        exact bodyPost_ret (v := .tuple #[headV (ns 0) (ns 1) (ns 2), .bool false]) (by simp [results, Tryz.results77, go_sem, x0, x1, x2, he3]) rfl ⟨⟨ns 0, ns 1, ns 2, false, rfl, fun h => absurd h (by decide), fun _ => by rw [HE.out, if_neg he]⟩, HBR.out _ _ _⟩
end Go.Proofs.YtnfidmjplhmblaaGreatDoor.Disk
