/- Laws that the proof rests on, put together: The law on DiskNew. What the laws on the disk's functions lean on: boxes, and what is kept in them. The head of an area, as it is sealed: the program and the model. How much room a side of a disk has: the program and the model. What the promise on disks leans on: what the calls tell, and the boxes that its walk keeps. What the functions on an area tell, and the laws' functions on it. The steps by which a text comes to a disk: what they come to. What stands on an area: its head, and the text of a side. A read of a sector that is there; cells of lists. Where a side of an area begins; the lesser of two numbers: the model. The text of a side, sector by sector. What a head that is read has. What the model tells beside a code of an area. The steps by which a text is put, and what AreaPut tells. What is read of an area behind the steps of a put, and behind a crash: plain. A put, whole or torn, and a crash: what is read. What lwDisks answers on what is alike. What lwArea answers on what is alike. Boxes that hold what a call on an area told. The program's look at the numbers of a head, and whether they fit. -/
import Derived.Test.YtkigmpeanllimaaGreatDoorTextsC
import Derived.Test.YtkigmpeanllimaaGreatDoorImplRead
import Derived.Test.YtkigmpeanllimaaGreatDoorTextsD
import Derived.Test.YtkigmpeanllimaaGreatDoorTextsB
import Derived.Deep.RegionHeld3
import Derived.Test.YtkigmpeanllimaaGreatDoorTextsA
import Derived.Laws.StructEq
import Derived.Test.YtkigmpeanllimaaGreatDoorSpecRead
/- The law on DiskNew. -/
namespace Go.Proofs.YtkigmpeanllimaaGreatDoor.Disk
open Go.RowKit Go.Proofs.YtkigmpeanllimaaGreatDoor.Mem Go.Proofs.YtkigmpeanllimaaGreatDoor.Harn Go.Proofs.YtkigmpeanllimaaGreatDoor.DiskP Go.Proofs.YtkigmpeanllimaaGreatDoor.Mark

theorem length_newD (n : Int) : (newD n).length ≤ 64 := by
  unfold newD
  split
  · simp; omega
  · simp
theorem Box2.only {p : Nat → Prop} {W W' : World} {g : Nat} {vs vp : Value} (h : Box2 W g vs vp) (hg : Only p W W') (hp : ¬ p g) : Box2 W' g vs vp := hg.row h hp
theorem box2_at (w : World) (vs vp : Value) : Box2 (w.alloc (.cells #[vs, vp] 26)) w.heap.size vs vp := Sha.row_new w [vs, vp] 26
theorem Box2.alloc {W : World} {g : Nat} {vs vp : Value} (h : Box2 W g vs vp) (o : Obj) : Box2 (W.alloc o) g vs vp := Sha.row_alloc h o

end Go.Proofs.YtkigmpeanllimaaGreatDoor.Disk

/- What the laws on the disk's functions lean on: boxes, and what is kept in them. -/
namespace Go.Proofs.YtkigmpeanllimaaGreatDoor.Disk
open Go.RowKit Go.Proofs.YtkigmpeanllimaaGreatDoor.Mem Go.Proofs.YtkigmpeanllimaaGreatDoor.Harn Go.Proofs.YtkigmpeanllimaaGreatDoor.DiskP Go.Proofs.YtkigmpeanllimaaGreatDoor.Mark

/-- A box that holds what was told. -/
def BoxO (W : World) (g : Nat) (vs vp : Value) (t : ByteArray) (c : Int) : Prop := HasRow W g [vs, vp, .string t, .int .i64 c] 69
theorem BoxO.cells {W : World} {g : Nat} {vs vp : Value} {t : ByteArray} {c : Int} (h : BoxO W g vs vp t c) : W.cell? ⟨g, 0, none⟩ = some vs ∧ W.cell? ⟨g, 1, none⟩ = some vp ∧ W.cell? ⟨g, 2, none⟩ = some (.string t) ∧ W.cell? ⟨g, 3, none⟩ = some (.int .i64 c) := ⟨Mem.cell_of_row h 0, Mem.cell_of_row h 1, Mem.cell_of_row h 2, Mem.cell_of_row h 3⟩
theorem BoxO.below {W W' : World} {g B : Nat} {vs vp : Value} {t : ByteArray} {c : Int} (h : BoxO W g vs vp t c) (hb : Below B W W') (hg : g < B) : BoxO W' g vs vp t c := Sha.row_below h hb hg
theorem BoxO.only {p : Nat → Prop} {W W' : World} {g : Nat} {vs vp : Value} {t : ByteArray} {c : Int} (h : BoxO W g vs vp t c) (hg : Only p W W') (hp : ¬ p g) : BoxO W' g vs vp t c := hg.row h hp
theorem BoxO.alloc {W : World} {g : Nat} {vs vp : Value} {t : ByteArray} {c : Int} (h : BoxO W g vs vp t c) (o : Obj) : BoxO (W.alloc o) g vs vp t c := Sha.row_alloc h o
theorem boxO_at (w : World) (vs vp : Value) (t : ByteArray) (c : Int) : BoxO (w.alloc (.cells #[vs, vp, .string t, .int .i64 c] 69)) w.heap.size vs vp t c := Sha.row_new w [vs, vp, .string t, .int .i64 c] 69
theorem bself {w : World} (o : Obj) : Below w.heap.size w (w.alloc o) := (Below.refl _ _).alloc (Nat.le_refl _) _

theorem readO_len {ls : List ByteArray} {lp : List (Int × ByteArray)} (x : Int) (h : Fits ls lp) : (readO ls lp x).ls.length ≤ 1100000 ∧ (readO ls lp x).lp.length ≤ 1100000 := by
  unfold readO
  split
  · split
    · exact ⟨h.n, h.m⟩
    · exact ⟨by simp [ill], by simp [ill]⟩
  · exact ⟨by simp [ill], by simp [ill]⟩
theorem flushO_len {ls : List ByteArray} {lp : List (Int × ByteArray)} (h : Fits ls lp) : (flushO ls lp).ls.length ≤ 1100000 ∧ (flushO ls lp).lp.length ≤ 1100000 := by
  unfold flushO
  split
  · exact ⟨by simp only [length_flushD]; exact h.n, by simp⟩
  · exact ⟨by simp [ill], by simp [ill]⟩
theorem writeO_len {ls : List ByteArray} {lp : List (Int × ByteArray)} (x : Int) (t : ByteArray) (h : Fits ls lp) : (writeO ls lp x t).ls.length ≤ 1100000 ∧ (writeO ls lp x t).lp.length ≤ 1100000 := by
  unfold writeO
  split
  · exact ⟨by simp [ill], by simp [ill]⟩
  · split
    · exact ⟨by simp [ill], by simp [ill]⟩
    · rename_i hr
      split
      · exact ⟨by simp [ill], by simp [ill]⟩
      · split
        · exact ⟨by simp [ill], by simp [ill]⟩
        · refine ⟨h.n, ?_⟩
          have hr2 : rightB ls lp = true := by cases e : rightB ls lp with | true => rfl | false => exact absurd (.inl e) hr
          have := ((right_iff ls lp).1 hr2).2.2.1
          simp; omega
end Go.Proofs.YtkigmpeanllimaaGreatDoor.Disk

/- The head of an area, as it is sealed: the program and the model. -/
namespace Go.Proofs.YtkigmpeanllimaaGreatDoor.Disk
open Go.RowKit Go.Proofs.YtkigmpeanllimaaGreatDoor.Mem Go.Proofs.YtkigmpeanllimaaGreatDoor.Harn Go.Proofs.YtkigmpeanllimaaGreatDoor.DiskP

/-- The head of a number, a side and a size, sealed. -/
def headB (g s n : Int) : ByteArray := Seal.sealB (PutNum.numB g ++ PutNum.numB s ++ PutNum.numB n)
theorem numB_size (n : Int) : 1 ≤ (PutNum.numB n).size ∧ (PutNum.numB n).size ≤ 10 := by
  have h := PutNum.length_numL n
  have e : (PutNum.numB n).size = (PutNum.numL n).length := by show (PutNum.numL n).toArray.size = _; simp
  rw [e]; exact h
theorem headB_size (g s n : Int) : (headB g s n).size ≤ 34 := by
  have h1 := numB_size g
  have h2 := numB_size s
  have h3 := numB_size n
  have h4 := Four.size_fourB (Crc.crcOf 0 (PutNum.numB g ++ PutNum.numB s ++ PutNum.numB n))
  unfold headB Seal.sealB
  simp only [ByteArray.size_append] at *
  omega

set_option maxRecDepth 100000 in
set_option maxHeartbeats 1000000 in
theorem specHead_any (g s n : Int) (w : World) (hg1 : -9223372036854775808 ≤ g) (hg2 : g ≤ 9223372036854775807) (hs1 : -9223372036854775808 ≤ s) (hs2 : s ≤ 9223372036854775807) (hn1 : -9223372036854775808 ≤ n) (hn2 : n ≤ 9223372036854775807) :
    Calls Tryz.prog 45 #[.int .i64 g, .int .i64 s, .int .i64 n] w fun e w' => e = .returned (.string (headB g s n)) ∧ Below w.heap.size w w' := by
  have h1 := (numB_size g).2
  have h2 := (numB_size s).2
  have h3 := (numB_size n).2
  have KG : Hid (∀ W, Calls Tryz.prog 70 #[.int .i64 g] W fun e w' => e = .returned (.string (PutNum.numB g)) ∧ Below W.heap.size W w') := fun W => PutNum.specPutNum_any g W hg1 hg2
  have KS : Hid (∀ W, Calls Tryz.prog 70 #[.int .i64 s] W fun e w' => e = .returned (.string (PutNum.numB s)) ∧ Below W.heap.size W w') := fun W => PutNum.specPutNum_any s W hs1 hs2
  have KN : Hid (∀ W, Calls Tryz.prog 70 #[.int .i64 n] W fun e w' => e = .returned (.string (PutNum.numB n)) ∧ Below W.heap.size W w') := fun W => PutNum.specPutNum_any n W hn1 hn2
  have KH : Hid (∀ W, Calls Tryz.prog 69 #[.string (PutNum.numB g ++ PutNum.numB s ++ PutNum.numB n)] W fun e w' => e = .returned (.string (headB g s n)) ∧ Below W.heap.size W w') := fun W => Seal.specSeal_in _ W (by simp only [ByteArray.size_append]; omega)
  generalize headB g s n = hd at *
  generalize PutNum.numB g = ag at *
  generalize PutNum.numB s = as2 at *
  generalize PutNum.numB n = an at *
  go_enter Tryz.func45, Tryz.ntmps45
  go_wp2_with fail
  refine (KG.out _).mono ?_
  rintro e w1 ⟨rfl, hb1⟩
  go_wp2_with fail
  refine (KS.out _).mono ?_
  rintro e w2 ⟨rfl, hb2⟩
  go_wp2_with fail
  refine (KN.out _).mono ?_
  rintro e w3 ⟨rfl, hb3⟩
  go_wp2_with fail
  refine (KH.out _).mono ?_
  rintro e w4 ⟨rfl, hb4⟩
  go_wp2
  go_ret
  exact ⟨rfl, bT (bT (bT hb1 hb2) hb3) hb4⟩

set_option maxRecDepth 100000 in
set_option maxHeartbeats 2000000 in
theorem implSealed_any (g s n : Int) (w : World) (hg1 : -9223372036854775808 ≤ g) (hg2 : g ≤ 9223372036854775807) (hs1 : -9223372036854775808 ≤ s) (hs2 : s ≤ 9223372036854775807) (hn1 : -9223372036854775808 ≤ n) (hn2 : n ≤ 9223372036854775807) :
    Calls Tryz.prog 62 #[.agg #[.int .i64 g, .int .i64 s, .int .i64 n]] w fun e w' => e = .returned (.string (headB g s n)) ∧ Below w.heap.size w w' := by
  have h1 := (numB_size g).2
  have h2 := (numB_size s).2
  have h3 := (numB_size n).2
  obtain ⟨W0, hW0⟩ : ∃ W0, W0 = w.alloc (.cells #[.int .i64 g, .int .i64 s, .int .i64 n] 49) := ⟨_, rfl⟩
  have HB0 : Hid (Below w.heap.size w W0) := by rw [hW0]; exact bself _
  have HX : Hid (HasRow W0 w.heap.size [.int .i64 g, .int .i64 s, .int .i64 n] 49) := by rw [hW0]; exact Sha.row_new w [.int .i64 g, .int .i64 s, .int .i64 n] 49
  have HZ : Hid (w.heap.size < W0.heap.size) := by rw [hW0]; simp [Hid]
  have KC : Hid (∀ W, Below W0.heap.size W0 W → W.cell? ⟨w.heap.size, 0, none⟩ = some (.int .i64 g) ∧ W.cell? ⟨w.heap.size, 1, none⟩ = some (.int .i64 s) ∧ W.cell? ⟨w.heap.size, 2, none⟩ = some (.int .i64 n)) := fun W hb => by
    have h := Sha.row_below HX.out hb HZ.out
    exact ⟨Mem.cell_of_row h 0, Mem.cell_of_row h 1, Mem.cell_of_row h 2⟩
  have KG : Hid (∀ W, Calls Tryz.prog 79 #[.int .i64 g] W fun e w' => e = .returned (.string (PutNum.numB g)) ∧ Below W.heap.size W w') := fun W => PutNum.implPutNum_any g W hg1 hg2
  have KS : Hid (∀ W, Calls Tryz.prog 79 #[.int .i64 s] W fun e w' => e = .returned (.string (PutNum.numB s)) ∧ Below W.heap.size W w') := fun W => PutNum.implPutNum_any s W hs1 hs2
  have KN : Hid (∀ W, Calls Tryz.prog 79 #[.int .i64 n] W fun e w' => e = .returned (.string (PutNum.numB n)) ∧ Below W.heap.size W w') := fun W => PutNum.implPutNum_any n W hn1 hn2
  have KH : Hid (∀ W, Calls Tryz.prog 78 #[.string (PutNum.numB g ++ PutNum.numB s ++ PutNum.numB n)] W fun e w' => e = .returned (.string (headB g s n)) ∧ Below W.heap.size W w') := fun W => Seal.implSeal_in _ W (by simp only [ByteArray.size_append]; omega)
  generalize headB g s n = hd at *
  generalize PutNum.numB g = ag at *
  generalize PutNum.numB s = as2 at *
  generalize PutNum.numB n = an at *
  have q1 : ¬ 9223372036854775807 < ag.size + as2.size := by omega
  have q2 : ¬ 9223372036854775807 < ag.size + as2.size + an.size := by omega
  have kQ := KC.out W0 (Below.refl _ _)
  have NB : Hid (Below W0.heap.size W0 W0) := Below.refl _ _
  go_enter Tryz.func62, Tryz.ntmps62
  go_wp2_with fail
  rw [← hW0]
  clear hW0
  go_region_held3 (fun W => W.cell? ⟨w.heap.size, 0, none⟩ = some (.int .i64 g) ∧ W.cell? ⟨w.heap.size, 1, none⟩ = some (.int .i64 s) ∧ W.cell? ⟨w.heap.size, 2, none⟩ = some (.int .i64 n))
    (exact kQ)
    (first
      | (go_at_call_of 79 (Value.int .i64 g); refine (KG.out _).mono ?_; rintro e u ⟨rfl, hb⟩; have NB : Hid (Below W0.heap.size W0 u) := bT (by repeat' (first | exact NB.out | apply bD)) hb; clear kQ; have kQ := KC.out _ NB.out; clear hb)
      | (go_at_call_of 79 (Value.int .i64 s); refine (KS.out _).mono ?_; rintro e u ⟨rfl, hb⟩; have NB : Hid (Below W0.heap.size W0 u) := bT (by repeat' (first | exact NB.out | apply bD)) hb; clear kQ; have kQ := KC.out _ NB.out; clear hb)
      | (go_at_call_of 79 (Value.int .i64 n); refine (KN.out _).mono ?_; rintro e u ⟨rfl, hb⟩; have NB : Hid (Below W0.heap.size W0 u) := bT (by repeat' (first | exact NB.out | apply bD)) hb; clear kQ; have kQ := KC.out _ NB.out; clear hb)
      | (go_at_call 78; refine (KH.out _).mono ?_; rintro e u ⟨rfl, hb⟩; have NB : Hid (Below W0.heap.size W0 u) := bT (by repeat' (first | exact NB.out | apply bD)) hb; clear kQ; have kQ := KC.out _ NB.out; clear hb))
  go_wp2
  go_ret
  exact ⟨rfl, bT HB0.out (by repeat' (first | exact NB.out | apply bD))⟩
end Go.Proofs.YtkigmpeanllimaaGreatDoor.Disk

/- How much room a side of a disk has: the program and the model. -/
namespace Go.Proofs.YtkigmpeanllimaaGreatDoor.Disk
open Go.RowKit Go.Proofs.YtkigmpeanllimaaGreatDoor.Mem Go.Proofs.YtkigmpeanllimaaGreatDoor.Harn Go.Proofs.YtkigmpeanllimaaGreatDoor.DiskP

/-- How many sectors a side has. -/
def halfN (ls : List ByteArray) : Nat := (ls.length - 1) / 2
/-- How many bytes a side has room for. -/
def roomN (ls : List ByteArray) (lp : List (Int × ByteArray)) : Nat := if rightB ls lp = true then 64 * halfN ls else 0

theorem quo2 (n : Nat) (h : 1 ≤ n) : ((n : Int) - 1).tdiv 2 = (((n - 1) / 2 : Nat) : Int) := by
  rw [Int.tdiv_eq_ediv_of_nonneg (by omega)]
  omega

set_option maxRecDepth 100000 in
set_option maxHeartbeats 1000000 in
theorem specHalf_any (vs vp : Value) (ls : List ByteArray) (w : World) (hs : Strs w vs ls) (h0 : 1 ≤ ls.length) (h1 : ls.length ≤ 1100000) :
    Calls Tryz.prog 43 #[.agg #[vs, vp]] w fun e w' => e = .returned (.int .i64 (halfN ls : Nat)) ∧ Below w.heap.size w w' := by
  obtain ⟨a, cap, rfl, _⟩ := hs
  have hq := quo2 ls.length h0
  have hh : halfN ls = (ls.length - 1) / 2 := rfl
  have HH : Hid (halfN ls = (ls.length - 1) / 2) := hh
  clear hh
  go_enter Tryz.func43, Tryz.ntmps43
  go_wp2
  go_ret
  exact ⟨by first | rfl | (rw [HH.out]; congr 2; omega), (Below.refl _ _).alloc (Nat.le_refl _) _⟩

set_option maxRecDepth 100000 in
set_option maxHeartbeats 1000000 in
theorem implSide_any (vs vp : Value) (ls : List ByteArray) (w : World) (hs : Strs w vs ls) (h0 : 1 ≤ ls.length) (h1 : ls.length ≤ 1100000) :
    Calls Tryz.prog 47 #[.agg #[vs, vp]] w fun e w' => e = .returned (.int .i64 (halfN ls : Nat)) ∧ Below w.heap.size w w' := by
  obtain ⟨a, cap, rfl, _⟩ := hs
  have hq := quo2 ls.length h0
  have hh : halfN ls = (ls.length - 1) / 2 := rfl
  have HH : Hid (halfN ls = (ls.length - 1) / 2) := hh
  clear hh
  go_enter Tryz.func47, Tryz.ntmps47
  go_wp2
  go_ret
  exact ⟨by first | rfl | (rw [HH.out]; congr 2; omega), (Below.refl _ _).alloc (Nat.le_refl _) _⟩

theorem roomN_no {ls : List ByteArray} {lp : List (Int × ByteArray)} (h : rightB ls lp = false) : roomN ls lp = 0 := by unfold roomN; rw [h]; rfl
theorem roomN_yes {ls : List ByteArray} {lp : List (Int × ByteArray)} (h : rightB ls lp = true) : roomN ls lp = 64 * halfN ls := by unfold roomN; rw [if_pos h]
theorem halfN_le {ls : List ByteArray} (h : ls.length ≤ 64) : halfN ls ≤ 31 := by unfold halfN; omega

set_option maxRecDepth 100000 in
set_option maxHeartbeats 1000000 in
theorem specRoom_any (vs vp : Value) (ls : List ByteArray) (lp : List (Int × ByteArray)) (w : World) (hs : Strs w vs ls) (hp : Pends w vp lp) (hf : Fits ls lp) :
    Calls Tryz.prog 16 #[.agg #[vs, vp]] w fun e w' => e = .returned (.int .i64 (roomN ls lp : Nat)) ∧ Below w.heap.size w w' := by
  obtain ⟨W0, hW0⟩ : ∃ W0, W0 = w.alloc (.cells #[vs, vp] 26) := ⟨_, rfl⟩
  have hB0 : Below w.heap.size w W0 := by rw [hW0]; exact bself _
  have HB0 : Hid (Below w.heap.size w W0) := hB0
  have HX : Hid (Box2 W0 w.heap.size vs vp) := by rw [hW0]; exact Sha.row_new w [vs, vp] 26
  have HZ : Hid (W0.heap.size = w.heap.size + 1) := by rw [hW0]; simp [Hid]
  have K1 : Hid (Calls Tryz.prog 36 #[.agg #[vs, vp]] W0 fun e w' => e = .returned (.bool (rightB ls lp)) ∧ Below W0.heap.size W0 w') := specRight_any vs vp ls lp W0 (hs.below hB0) (hp.below hB0) hf.n hf.m hf.t hf.y
  have HS : Hid (Strs W0 vs ls) := hs.below hB0
  clear hs hp hB0 hf
  cases hr : rightB ls lp
  · rw [roomN_no hr]
    rw [hr] at K1
    clear hr
    go_enter Tryz.func16, Tryz.ntmps16
    go_wp2_with (go_at_call 36; rw [← hW0]; clear hW0; refine K1.out.mono ?_; rintro e w1 ⟨rfl, hb1⟩; have HB1 : Hid _ := hb1; clear hb1)
    go_ret
    exact ⟨rfl, bT HB0.out HB1.out⟩
  · have hl := ((right_iff ls lp).1 hr).1
    have hl2 := ((right_iff ls lp).1 hr).2.1
    have h31 := halfN_le hl2
    rw [roomN_yes hr]
    rw [hr] at K1
    clear hr
    have K2 : Hid (∀ W, Below W0.heap.size W0 W → Calls Tryz.prog 43 #[.agg #[vs, vp]] W fun e w' => e = .returned (.int .i64 (halfN ls : Nat)) ∧ Below W.heap.size W w') := fun W hb => specHalf_any vs vp ls W (HS.out.below hb) hl (by omega)
    generalize halfN ls = hn at *
    go_enter Tryz.func16, Tryz.ntmps16
    go_wp2_with (first | (go_at_call 36; rw [← hW0]; clear hW0; refine K1.out.mono ?_; rintro e w1 ⟨rfl, hb1⟩; obtain ⟨x0, x1, _⟩ := Box2.cells (Box2.below HX.out hb1 (by have := HZ.out; omega)); have HB1 : Hid _ := hb1; clear hb1) | (go_at_call 43; refine (K2.out _ HB1.out).mono ?_; rintro e w2 ⟨rfl, hb2⟩; have HB2 : Hid _ := hb2; clear hb2))
    go_ret
    exact ⟨by go_num, bT (bT HB0.out HB1.out) HB2.out⟩

set_option maxRecDepth 100000 in
set_option maxHeartbeats 1000000 in
theorem implRoom_any (vs vp : Value) (ls : List ByteArray) (lp : List (Int × ByteArray)) (w : World) (hs : Strs w vs ls) (hp : Pends w vp lp) (hf : Fits ls lp) :
    Calls Tryz.prog 15 #[.agg #[vs, vp]] w fun e w' => e = .returned (.int .i64 (roomN ls lp : Nat)) ∧ Below w.heap.size w w' := by
  obtain ⟨W0, hW0⟩ : ∃ W0, W0 = w.alloc (.cells #[vs, vp] 26) := ⟨_, rfl⟩
  have hB0 : Below w.heap.size w W0 := by rw [hW0]; exact bself _
  have HB0 : Hid (Below w.heap.size w W0) := hB0
  have HX : Hid (Box2 W0 w.heap.size vs vp) := by rw [hW0]; exact Sha.row_new w [vs, vp] 26
  have HZ : Hid (W0.heap.size = w.heap.size + 1) := by rw [hW0]; simp [Hid]
  have K1 : Hid (Calls Tryz.prog 35 #[.agg #[vs, vp]] W0 fun e w' => e = .returned (.bool (rightB ls lp)) ∧ Below W0.heap.size W0 w') := implRight_any vs vp ls lp W0 (hs.below hB0) (hp.below hB0) hf.n hf.m hf.t hf.y
  have HS : Hid (Strs W0 vs ls) := hs.below hB0
  clear hs hp hB0 hf
  cases hr : rightB ls lp
  · rw [roomN_no hr]
    rw [hr] at K1
    clear hr
    go_enter Tryz.func15, Tryz.ntmps15
    go_wp2_with (go_at_call 35; rw [← hW0]; clear hW0; refine K1.out.mono ?_; rintro e w1 ⟨rfl, hb1⟩; have HB1 : Hid _ := hb1; clear hb1)
    go_ret
    exact ⟨rfl, bT HB0.out HB1.out⟩
  · have hl := ((right_iff ls lp).1 hr).1
    have hl2 := ((right_iff ls lp).1 hr).2.1
    have h31 := halfN_le hl2
    rw [roomN_yes hr]
    rw [hr] at K1
    clear hr
    have K2 : Hid (∀ W, Below W0.heap.size W0 W → Calls Tryz.prog 47 #[.agg #[vs, vp]] W fun e w' => e = .returned (.int .i64 (halfN ls : Nat)) ∧ Below W.heap.size W w') := fun W hb => implSide_any vs vp ls W (HS.out.below hb) hl (by omega)
    generalize halfN ls = hn at *
    go_enter Tryz.func15, Tryz.ntmps15
    go_wp2_with (first | (go_at_call 35; rw [← hW0]; clear hW0; refine K1.out.mono ?_; rintro e w1 ⟨rfl, hb1⟩; obtain ⟨x0, x1, _⟩ := Box2.cells (Box2.below HX.out hb1 (by have := HZ.out; omega)); have HB1 : Hid _ := hb1; clear hb1) | (go_at_call 47; refine (K2.out _ HB1.out).mono ?_; rintro e w2 ⟨rfl, hb2⟩; have HB2 : Hid _ := hb2; clear hb2))
    go_ret
    exact ⟨by go_num, bT (bT HB0.out HB1.out) HB2.out⟩
end Go.Proofs.YtkigmpeanllimaaGreatDoor.Disk

/- What the promise on disks leans on: what the calls tell, and the boxes that its walk keeps. -/
namespace Go.Proofs.YtkigmpeanllimaaGreatDoor.DiskP

theorem beqB (t : ByteArray) : (t == t) = true := by rw [beq_toListBytes]; simp
theorem flush_none (ls : List ByteArray) (kp : List Int) : flushD ls (keptD [] kp) = ls := rfl
theorem read_flushed (ls : List ByteArray) (lp : List (Int × ByteArray)) (h0 : ∀ y ∈ lp, 0 ≤ y.1) (k : Nat) (hk : k < ls.length) : readD (flushD ls lp) [] k = readD ls lp k := by
  rw [readD_nil _ k (by rw [length_flushD]; exact hk), flushD_at ls lp h0 k hk]
/-- Is the text at place k the sector's, or one of the first j pending ones' there? -/
def someTo (s t : ByteArray) (k : Nat) (lp : List (Int × ByteArray)) (j : Nat) : Bool := (t == s) || (lp.take j).any (fun y => y.1 == (k : Int) && y.2 == t)
theorem someTo_start (s t : ByteArray) (k : Nat) (lp : List (Int × ByteArray)) : someTo s t k lp 0 = (t == s) := by simp [someTo]
theorem someTo_step (s t : ByteArray) (k : Nat) (lp : List (Int × ByteArray)) (j : Nat) (h : j < lp.length) : someTo s t k lp (j + 1) = (someTo s t k lp j || (lp[j].1 == (k : Int) && lp[j].2 == t)) := by
  unfold someTo
  rw [List.take_succ_eq_append_getElem h, List.any_append]
  simp [Bool.or_assoc]
theorem someTo_end (ls : List ByteArray) (lp : List (Int × ByteArray)) (kp : List Int) (k : Nat) (hk : k < ls.length) : someTo ls[k] (readD ls (keptD lp kp) k) k lp lp.length = true := by
  unfold someTo
  rw [List.take_length]
  cases e : lastOf (keptD lp kp) (k : Int) with
  | none => rw [readD_none e hk, beqB]; rfl
  | some y =>
    obtain ⟨h1, h2⟩ := lastOf_mem e
    rw [readD_some e]
    have : lp.any (fun z => z.1 == (k : Int) && z.2 == y.2) = true := List.any_eq_true.2 ⟨y, keptTo_mem lp kp lp.length y h1, by simp [h2, beqB]⟩
    rw [this]
    simp
end Go.Proofs.YtkigmpeanllimaaGreatDoor.DiskP

namespace Go.Proofs.YtkigmpeanllimaaGreatDoor.Disk
open Go.RowKit Go.Proofs.YtkigmpeanllimaaGreatDoor.Mem Go.Proofs.YtkigmpeanllimaaGreatDoor.Harn Go.Proofs.YtkigmpeanllimaaGreatDoor.DiskP

theorem fits_right {ls : List ByteArray} {lp : List (Int × ByteArray)} (h : rightB ls lp = true) : Fits ls lp := by
  obtain ⟨h1, h2, h3, h4, h5⟩ := (right_iff ls lp).1 h
  refine ⟨by omega, by omega, fun t ht => ?_, fun y hy => ?_, fun t ht => ?_, fun y hy => ?_⟩
  · have := h4 t ht; unfold maxLen; omega
  · obtain ⟨a, b, c⟩ := h5 y hy; unfold maxLen; omega
  · have := h4 t ht; omega
  · obtain ⟨a, b, c⟩ := h5 y hy; omega
theorem fits_nil : Fits [] [] := ⟨by simp, by simp, by simp, by simp, by simp, by simp⟩
theorem fits_new (n : Int) : Fits (newD n) [] := by
  unfold newD
  split
  · rename_i h
    refine ⟨by simp; omega, by simp, fun t ht => ?_, by simp, fun t ht => ?_, by simp⟩
    · rw [List.eq_of_mem_replicate ht]; unfold maxLen; simp
    · rw [List.eq_of_mem_replicate ht]; simp
  · exact fits_nil
/-- What a write told, as the promise wants it. -/
structure WroteR (ls : List ByteArray) (lp : List (Int × ByteArray)) (x : Int) (t : ByteArray) (o : Out) : Prop where
  f : Fits o.ls o.lp
  r : o.c = 0 → rightB o.ls o.lp = true
  l : o.c = 0 → o.ls = ls ∧ o.lp = lp ++ [(x, t)]
  d : o.c = 0 → rightB ls lp = true
theorem wrote_ill (ls : List ByteArray) (lp : List (Int × ByteArray)) (x : Int) (t : ByteArray) {c : Int} (h : c ≠ 0) : WroteR ls lp x t (ill c) := ⟨fits_nil, fun e => absurd e h, fun e => absurd e h, fun e => absurd e h⟩
theorem writeO_wrote (ls : List ByteArray) (lp : List (Int × ByteArray)) (x : Int) (t : ByteArray) : WroteR ls lp x t (writeO ls lp x t) := by
  unfold writeO
  split
  · exact wrote_ill _ _ _ _ (by decide)
  · split
    · exact wrote_ill _ _ _ _ (by decide)
    · rename_i h8 hr
      split
      · exact wrote_ill _ _ _ _ (by decide)
      · rename_i hx
        split
        · exact wrote_ill _ _ _ _ (by decide)
        · rename_i h2
          have hr2 : rightB ls lp = true := by cases e : rightB ls lp with | true => rfl | false => exact absurd (.inl e) hr
          have ht : t.size ≤ 64 := by
            rcases Nat.lt_or_ge 64 t.size with h | h
            · exact absurd (.inr h) hr
            · exact h
          have hq : rightB ls (lp ++ [(x, t)]) = true := by
            rw [right_iff] at hr2 ⊢
            obtain ⟨a1, a2, a3, a4, a5⟩ := hr2
            refine ⟨a1, a2, by simp; omega, a4, fun y hy => ?_⟩
            rcases List.mem_append.1 hy with h | h
            · exact a5 y h
            · rw [List.mem_singleton.1 h]; exact ⟨by simp only; omega, by simp only; omega, ht⟩
          exact ⟨fits_right hq, fun _ => hq, fun _ => ⟨rfl, rfl⟩, fun _ => hr2⟩
theorem flush_right {ls : List ByteArray} {lq lp : List (Int × ByteArray)} (h : rightB ls lp = true) (hs : ∀ y ∈ lq, y ∈ lp) : rightB (flushD ls lq) [] = true := by
  rw [right_iff] at h ⊢
  obtain ⟨a1, a2, a3, a4, a5⟩ := h
  refine ⟨by rw [length_flushD]; exact a1, by rw [length_flushD]; exact a2, by simp, ?_, by simp⟩
  have key : ∀ lq : List (Int × ByteArray), (∀ y ∈ lq, y ∈ lp) → ∀ t ∈ flushD ls lq, t.size ≤ 64 := by
    refine snoc_ind (fun _ => a4) (fun l z ih h t ht => ?_)
    rw [flushD_snoc] at ht
    rcases List.mem_or_eq_of_mem_set ht with h1 | h1
    · exact ih (fun y hy => h y (by simp [hy])) t h1
    · rw [h1]; exact (a5 z (h z (by simp))).2.2
  exact key lq hs
/-- What a flush told. -/
structure FlushedR (ls : List ByteArray) (lp : List (Int × ByteArray)) (o : Out) : Prop where
  f : Fits o.ls o.lp
  r : o.c = 0 → rightB o.ls o.lp = true
  l : o.c = 0 → o.ls = flushD ls lp ∧ o.lp = []
  d : o.c = 0 → rightB ls lp = true
theorem flushO_flushed (ls : List ByteArray) (lp : List (Int × ByteArray)) : FlushedR ls lp (flushO ls lp) := by
  unfold flushO
  split
  · rename_i h
    have hq := flush_right h (lq := lp) (fun _ h => h)
    exact ⟨fits_right hq, fun _ => hq, fun _ => ⟨rfl, rfl⟩, fun _ => h⟩
  · exact ⟨fits_nil, fun e => absurd e (by decide), fun e => absurd e (by decide), fun e => absurd e (by decide)⟩
theorem crashO_fits {ls : List ByteArray} {lp : List (Int × ByteArray)} (kp : List Int) (h : Fits ls lp) : Fits (crashO ls lp kp).1 (crashO ls lp kp).2 := by
  unfold crashO
  split
  · exact fits_nil
  · split
    · rename_i h1 h2
      exact fits_right (flush_right h2 (fun y hy => keptTo_mem lp kp _ y hy))
    · exact h
/-- What a read told. -/
theorem readO_read {ls : List ByteArray} {lp : List (Int × ByteArray)} (x : Int) (h : Fits ls lp) : Fits (readO ls lp x).ls (readO ls lp x).lp ∧ ((readO ls lp x).c = 0 → rightB (readO ls lp x).ls (readO ls lp x).lp = true) := by
  unfold readO
  split
  · rename_i h1
    split
    · exact ⟨h, fun _ => h1⟩
    · exact ⟨fits_nil, fun e => absurd e (by decide)⟩
  · exact ⟨fits_nil, fun e => absurd e (by decide)⟩

/-- A box that holds a disk, and the disk. -/
structure BoxD (W : World) (g : Nat) (va : Option Addr) (ca : Nat) (vb : Option Addr) (cb : Nat) (ls : List ByteArray) (lp : List (Int × ByteArray)) : Prop where
  b : Box2 W g (.slice va ls.length ca) (.slice vb lp.length cb)
  s : Strs W (.slice va ls.length ca) ls
  p : Pends W (.slice vb lp.length cb) lp
  z : g < W.heap.size
theorem BoxD.below {W W' : World} {g : Nat} {va : Option Addr} {ca : Nat} {vb : Option Addr} {cb : Nat} {ls : List ByteArray} {lp : List (Int × ByteArray)} (h : BoxD W g va ca vb cb ls lp) (hb : Below W.heap.size W W') : BoxD W' g va ca vb cb ls lp :=
  ⟨h.b.below hb h.z, h.s.below hb, h.p.below hb, Nat.lt_of_lt_of_le h.z hb.size⟩
theorem boxD_new {w : World} {va : Option Addr} {ca : Nat} {vb : Option Addr} {cb : Nat} {ls : List ByteArray} {lp : List (Int × ByteArray)} (hs : Strs w (.slice va ls.length ca) ls) (hp : Pends w (.slice vb lp.length cb) lp) : BoxD (w.alloc (.cells #[.slice va ls.length ca, .slice vb lp.length cb] 26)) w.heap.size va ca vb cb ls lp :=
  ⟨Sha.row_new w [.slice va ls.length ca, .slice vb lp.length cb] 26, hs.below (bself _), hp.below (bself _), by simp⟩
/-- A box that holds what a call told. -/
structure BoxT (W : World) (g : Nat) (va : Option Addr) (ca : Nat) (vb : Option Addr) (cb : Nat) (ls : List ByteArray) (lp : List (Int × ByteArray)) (t : ByteArray) (c : Int) : Prop where
  b : BoxO W g (.slice va ls.length ca) (.slice vb lp.length cb) t c
  s : Strs W (.slice va ls.length ca) ls
  p : Pends W (.slice vb lp.length cb) lp
  z : g < W.heap.size
theorem BoxT.below {W W' : World} {g : Nat} {va : Option Addr} {ca : Nat} {vb : Option Addr} {cb : Nat} {ls : List ByteArray} {lp : List (Int × ByteArray)} {t : ByteArray} {c : Int} (h : BoxT W g va ca vb cb ls lp t c) (hb : Below W.heap.size W W') : BoxT W' g va ca vb cb ls lp t c :=
  ⟨h.b.below hb h.z, h.s.below hb, h.p.below hb, Nat.lt_of_lt_of_le h.z hb.size⟩
theorem boxT_new {w : World} {va : Option Addr} {ca : Nat} {vb : Option Addr} {cb : Nat} {ls : List ByteArray} {lp : List (Int × ByteArray)} (t : ByteArray) (c : Int) (hs : Strs w (.slice va ls.length ca) ls) (hp : Pends w (.slice vb lp.length cb) lp) : BoxT (w.alloc (.cells #[.slice va ls.length ca, .slice vb lp.length cb, .string t, .int .i64 c] 69)) w.heap.size va ca vb cb ls lp t c :=
  ⟨boxO_at w _ _ t c, hs.below (bself _), hp.below (bself _), by simp⟩
/-- All that the walk keeps, in one world. -/
structure Six (w V : World) (g5 g8 g9 g11 g12 g14 : Nat) (dA xA eA cA fA gA dB xB eB cB fB gB : Option Addr) (da xa ea ca fa ga db xb eb cb fb gb : Nat) (dl xl el cl fl gl : List ByteArray) (dp xp ep cp fp gp : List (Int × ByteArray)) (xt ft : ByteArray) (xc fc : Int) (vk : Value) (kp : List Int) : Prop where
  B : Below w.heap.size w V
  d : BoxD V g5 dA da dB db dl dp
  x : BoxT V g8 xA xa xB xb xl xp xt xc
  e : BoxD V g9 eA ea eB eb el ep
  c : BoxD V g11 cA ca cB cb cl cp
  f : BoxT V g12 fA fa fB fb fl fp ft fc
  g : BoxD V g14 gA ga gB gb gl gp
  k : Ints V vk kp
theorem six_mk {w V : World} {g5 g8 g9 g11 g12 g14 : Nat} {dA xA eA cA fA gA dB xB eB cB fB gB : Option Addr} {da xa ea ca fa ga db xb eb cb fb gb : Nat} {dl xl el cl fl gl : List ByteArray} {dp xp ep cp fp gp : List (Int × ByteArray)} {xt ft : ByteArray} {xc fc : Int} {vk : Value} {kp : List Int}
    (B : Below w.heap.size w V) (d : BoxD V g5 dA da dB db dl dp) (x : BoxT V g8 xA xa xB xb xl xp xt xc) (e : BoxD V g9 eA ea eB eb el ep) (c : BoxD V g11 cA ca cB cb cl cp) (f : BoxT V g12 fA fa fB fb fl fp ft fc) (g : BoxD V g14 gA ga gB gb gl gp) (k : Ints V vk kp) :
    Six w V g5 g8 g9 g11 g12 g14 dA xA eA cA fA gA dB xB eB cB fB gB da xa ea ca fa ga db xb eb cb fb gb dl xl el cl fl gl dp xp ep cp fp gp xt ft xc fc vk kp := ⟨B, d, x, e, c, f, g, k⟩
theorem Six.below {w V W : World} {g5 g8 g9 g11 g12 g14 : Nat} {dA xA eA cA fA gA dB xB eB cB fB gB : Option Addr} {da xa ea ca fa ga db xb eb cb fb gb : Nat} {dl xl el cl fl gl : List ByteArray} {dp xp ep cp fp gp : List (Int × ByteArray)} {xt ft : ByteArray} {xc fc : Int} {vk : Value} {kp : List Int}
    (h : Six w V g5 g8 g9 g11 g12 g14 dA xA eA cA fA gA dB xB eB cB fB gB da xa ea ca fa ga db xb eb cb fb gb dl xl el cl fl gl dp xp ep cp fp gp xt ft xc fc vk kp) (hb : Below V.heap.size V W) :
    Six w W g5 g8 g9 g11 g12 g14 dA xA eA cA fA gA dB xB eB cB fB gB da xa ea ca fa ga db xb eb cb fb gb dl xl el cl fl gl dp xp ep cp fp gp xt ft xc fc vk kp := ⟨bT h.B hb, h.d.below hb, h.x.below hb, h.e.below hb, h.c.below hb, h.f.below hb, h.g.below hb, h.k.below hb⟩
theorem six_cells {w V W : World} {g5 g8 g9 g11 g12 g14 : Nat} {dA xA eA cA fA gA dB xB eB cB fB gB : Option Addr} {da xa ea ca fa ga db xb eb cb fb gb : Nat} {dl xl el cl fl gl : List ByteArray} {dp xp ep cp fp gp : List (Int × ByteArray)} {xt ft : ByteArray} {xc fc : Int} {vk : Value} {kp : List Int}
    (h : Six w V g5 g8 g9 g11 g12 g14 dA xA eA cA fA gA dB xB eB cB fB gB da xa ea ca fa ga db xb eb cb fb gb dl xl el cl fl gl dp xp ep cp fp gp xt ft xc fc vk kp) (hb : Below V.heap.size V W) :
    W.cell? ⟨g5, 0, none⟩ = some (.slice dA dl.length da) ∧ W.cell? ⟨g5, 1, none⟩ = some (.slice dB dp.length db) ∧
    W.cell? ⟨g8, 0, none⟩ = some (.slice xA xl.length xa) ∧ W.cell? ⟨g8, 1, none⟩ = some (.slice xB xp.length xb) ∧ W.cell? ⟨g8, 2, none⟩ = some (.string xt) ∧ W.cell? ⟨g8, 3, none⟩ = some (.int .i64 xc) ∧
    W.cell? ⟨g9, 0, none⟩ = some (.slice eA el.length ea) ∧ W.cell? ⟨g9, 1, none⟩ = some (.slice eB ep.length eb) ∧
    W.cell? ⟨g11, 0, none⟩ = some (.slice cA cl.length ca) ∧ W.cell? ⟨g11, 1, none⟩ = some (.slice cB cp.length cb) ∧
    W.cell? ⟨g12, 0, none⟩ = some (.slice fA fl.length fa) ∧ W.cell? ⟨g12, 1, none⟩ = some (.slice fB fp.length fb) ∧ W.cell? ⟨g12, 2, none⟩ = some (.string ft) ∧ W.cell? ⟨g12, 3, none⟩ = some (.int .i64 fc) ∧
    W.cell? ⟨g14, 0, none⟩ = some (.slice gA gl.length ga) ∧ W.cell? ⟨g14, 1, none⟩ = some (.slice gB gp.length gb) := by
  have h := h.below hb
  obtain ⟨a1, a2, _⟩ := h.d.b.cells
  obtain ⟨b1, b2, b3, b4⟩ := h.x.b.cells
  obtain ⟨c1, c2, _⟩ := h.e.b.cells
  obtain ⟨d1, d2, _⟩ := h.c.b.cells
  obtain ⟨e1, e2, e3, e4⟩ := h.f.b.cells
  obtain ⟨f1, f2, _⟩ := h.g.b.cells
  exact ⟨a1, a2, b1, b2, b3, b4, c1, c2, d1, d2, e1, e2, e3, e4, f1, f2⟩
end Go.Proofs.YtkigmpeanllimaaGreatDoor.Disk

/- What the functions on an area tell, and the laws' functions on it. -/
namespace Go.Proofs.YtkigmpeanllimaaGreatDoor.Disk
open Go.RowKit Go.Proofs.YtkigmpeanllimaaGreatDoor.Mem Go.Proofs.YtkigmpeanllimaaGreatDoor.Harn Go.Proofs.YtkigmpeanllimaaGreatDoor.DiskP Go.Proofs.YtkigmpeanllimaaGreatDoor.Mark

structure AOut where
  ls : List ByteArray
  lp : List (Int × ByteArray)
  t : ByteArray
  g : Int
  c : Int
def illA (c : Int) : AOut := ⟨[], [], ByteArray.empty, 0, c⟩
/-- What is told, as a value. -/
abbrev outA (vs vp : Value) (t : ByteArray) (g c : Int) : Value := .agg #[vs, vp, .string t, .int .i64 g, .int .i64 c]
/-- A call told o: in memory of its own; nothing old has turned. -/
def ToldA (w : World) (o : AOut) (e : Ending) (w' : World) : Prop := ∃ us up, e = .returned (outA us up o.t o.g o.c) ∧ Own w' w.heap.size w'.heap.size us up o.ls o.lp ∧ Below w.heap.size w w'
def BoxA (W : World) (g : Nat) (vs vp : Value) (t : ByteArray) (gn c : Int) : Prop := HasRow W g [vs, vp, .string t, .int .i64 gn, .int .i64 c] 31
theorem BoxA.cells {W : World} {g : Nat} {vs vp : Value} {t : ByteArray} {gn c : Int} (h : BoxA W g vs vp t gn c) : W.cell? ⟨g, 0, none⟩ = some vs ∧ W.cell? ⟨g, 1, none⟩ = some vp ∧ W.cell? ⟨g, 2, none⟩ = some (.string t) ∧ W.cell? ⟨g, 3, none⟩ = some (.int .i64 gn) ∧ W.cell? ⟨g, 4, none⟩ = some (.int .i64 c) := ⟨Mem.cell_of_row h 0, Mem.cell_of_row h 1, Mem.cell_of_row h 2, Mem.cell_of_row h 3, Mem.cell_of_row h 4⟩
theorem BoxA.frozen {W : World} {g : Nat} {vs vp : Value} {t : ByteArray} {gn c : Int} (h : BoxA W g vs vp t gn c) : ∀ o, W.frozen? ⟨g, o, none⟩ = false := Mem.frozen_of_row h
theorem BoxA.below {W W' : World} {g B : Nat} {vs vp : Value} {t : ByteArray} {gn c : Int} (h : BoxA W g vs vp t gn c) (hb : Below B W W') (hg : g < B) : BoxA W' g vs vp t gn c := Sha.row_below h hb hg
theorem BoxA.only {p : Nat → Prop} {W W' : World} {g : Nat} {vs vp : Value} {t : ByteArray} {gn c : Int} (h : BoxA W g vs vp t gn c) (hg : Only p W W') (hp : ¬ p g) : BoxA W' g vs vp t gn c := hg.row h hp
theorem BoxA.alloc {W : World} {g : Nat} {vs vp : Value} {t : ByteArray} {gn c : Int} (h : BoxA W g vs vp t gn c) (o : Obj) : BoxA (W.alloc o) g vs vp t gn c := Sha.row_alloc h o
theorem boxA_at (w : World) (vs vp : Value) (t : ByteArray) (gn c : Int) : BoxA (w.alloc (.cells #[vs, vp, .string t, .int .i64 gn, .int .i64 c] 31)) w.heap.size vs vp t gn c := Sha.row_new w [vs, vp, .string t, .int .i64 gn, .int .i64 c] 31

end Go.Proofs.YtkigmpeanllimaaGreatDoor.Disk

/- The steps by which a text comes to a disk: what they come to. -/
namespace Go.Proofs.YtkigmpeanllimaaGreatDoor.Disk
open Go.RowKit Go.Proofs.YtkigmpeanllimaaGreatDoor.Mem Go.Proofs.YtkigmpeanllimaaGreatDoor.Harn Go.Proofs.YtkigmpeanllimaaGreatDoor.DiskP

/-- A step: a flush, or a write of a sector. -/
abbrev Step := Bool × Int × ByteArray
def stepO (ls : List ByteArray) (lp : List (Int × ByteArray)) (y : Step) : Out := if y.1 = true then flushO ls lp else writeO ls lp y.2.1 y.2.2
/-- One step behind the other, up to the first that tells a code. -/
def runO (ls : List ByteArray) (lp : List (Int × ByteArray)) : List Step → AOut
  | [] => ⟨ls, lp, ByteArray.empty, 0, 0⟩
  | y :: r => if (stepO ls lp y).c = 0 then runO (stepO ls lp y).ls (stepO ls lp y).lp r else illA (stepO ls lp y).c
theorem stepO_fits (ls : List ByteArray) (lp : List (Int × ByteArray)) (y : Step) : Fits (stepO ls lp y).ls (stepO ls lp y).lp := by
  unfold stepO
  split
  · exact (flushO_flushed ls lp).f
  · exact (writeO_wrote ls lp y.2.1 y.2.2).f
theorem runO_drop (ls : List ByteArray) (lp : List (Int × ByteArray)) (σ : List Step) (k : Nat) (h : k < σ.length) : runO ls lp (σ.drop k) = if (stepO ls lp σ[k]).c = 0 then runO (stepO ls lp σ[k]).ls (stepO ls lp σ[k]).lp (σ.drop (k + 1)) else illA (stepO ls lp σ[k]).c := by
  rw [List.drop_eq_getElem_cons h]
  rfl
theorem runO_end (ls : List ByteArray) (lp : List (Int × ByteArray)) (σ : List Step) (k : Nat) (h : σ.length ≤ k) : runO ls lp (σ.drop k) = ⟨ls, lp, ByteArray.empty, 0, 0⟩ := by
  rw [List.drop_eq_nil_of_le h]
  rfl
theorem runO_fits (σ : List Step) : ∀ (ls : List ByteArray) (lp : List (Int × ByteArray)), Fits ls lp → Fits (runO ls lp σ).ls (runO ls lp σ).lp := by
  induction σ with
  | nil => intro ls lp h; exact h
  | cons y r ih =>
    intro ls lp h
    unfold runO
    split
    · exact ih _ _ (stepO_fits ls lp y)
    · exact fits_nil
/-- The slice v reads as the steps l. -/
def Steps (W : World) (v : Value) (l : List Step) : Prop :=
  ∃ a cap, v = .slice a l.length cap ∧ ∀ j (h : j < l.length), ∃ b o, a = some ⟨b, o, none⟩ ∧ W.cell? ⟨b, o + j * 3, none⟩ = some (.bool l[j].1) ∧ W.cell? ⟨b, o + j * 3 + 1, none⟩ = some (.int .i64 l[j].2.1) ∧ W.cell? ⟨b, o + j * 3 + 2, none⟩ = some (.string l[j].2.2)
theorem Steps.below {W W' : World} {v : Value} {l : List Step} (h : Steps W v l) (hb : Below W.heap.size W W') : Steps W' v l := by
  obtain ⟨a, cap, hv, hc⟩ := h
  refine ⟨a, cap, hv, fun j hj => ?_⟩
  obtain ⟨b, o, ha, h1, h2, h3⟩ := hc j hj
  refine ⟨b, o, ha, ?_, ?_, ?_⟩
  · rw [hb.cell (World.block_lt_of_cell? W _ h1)]; exact h1
  · rw [hb.cell (World.block_lt_of_cell? W _ h2)]; exact h2
  · rw [hb.cell (World.block_lt_of_cell? W _ h3)]; exact h3

theorem box2_set {W : World} {g : Nat} {vs vp us up : Value} (h : Box2 W g vs vp) : Box2 ((W.setCell ⟨g, 0, none⟩ us).setCell ⟨g, 1, none⟩ up) g us up := row_set (row_set h 0 us) 1 up
theorem onlyA_set1 (W : World) (b o : Nat) (v0 : Value) : Only (fun k => k = b) W (W.setCell ⟨b, o, none⟩ v0) := ⟨rfl, rfl, rfl, by simp, fun k _ hk => Below.heap_setCell _ _ _ _ hk⟩
theorem onlyA_set2 {W : World} {b : Nat} {v0 v1 : Value} : Only (fun k => k = b) W ((W.setCell ⟨b, 0, none⟩ v0).setCell ⟨b, 1, none⟩ v1) := (onlyA_set1 W b 0 v0).trans (onlyA_set1 _ b 1 v1)
theorem onlyA_set5 {W : World} {b : Nat} {v0 v1 v2 v3 v4 : Value} : Only (fun k => k = b) W (((((W.setCell ⟨b, 0, none⟩ v0).setCell ⟨b, 1, none⟩ v1).setCell ⟨b, 2, none⟩ v2).setCell ⟨b, 3, none⟩ v3).setCell ⟨b, 4, none⟩ v4) :=
  (((onlyA_set2.trans (onlyA_set1 _ b 2 v2)).trans (onlyA_set1 _ b 3 v3)).trans (onlyA_set1 _ b 4 v4))
end Go.Proofs.YtkigmpeanllimaaGreatDoor.Disk

/- What stands on an area: its head, and the text of a side. -/
namespace Go.Proofs.YtkigmpeanllimaaGreatDoor.Disk
open Go.RowKit Go.Proofs.YtkigmpeanllimaaGreatDoor.Mem Go.Proofs.YtkigmpeanllimaaGreatDoor.Harn Go.Proofs.YtkigmpeanllimaaGreatDoor.DiskP Go.Proofs.YtkigmpeanllimaaGreatDoor.GetNum Go.Proofs.YtkigmpeanllimaaGreatDoor.PutNum Go.Proofs.YtkigmpeanllimaaGreatDoor.Seal Go.Proofs.YtkigmpeanllimaaGreatDoor.Unseal

/-- The three numbers of a head, if these are all that stands there. -/
def headNum (s : ByteArray) : Option (Int × Int × Int) :=
  if (rd s 0).1 = 0 ∧ (rd s (rd s 0).2.2).1 = 0 ∧ (rd s (rd s (rd s 0).2.2).2.2).1 = 0 ∧ (rd s (rd s (rd s 0).2.2).2.2).2.2 = s.size then some (unfoldI (rd s 0).2.1, unfoldI (rd s (rd s 0).2.2).2.1, unfoldI (rd s (rd s (rd s 0).2.2).2.2).2.1) else none

theorem rd_eta {s : ByteArray} {p : Nat} (h : (rd s p).1 = 0) : rd s p = (0, (rd s p).2.1, (rd s p).2.2) := by
  rw [← h]
theorem numB_data (n : Int) : (numB n).data.toList = putF 9 (foldN n) := by simp [numB, numL]
theorem size_list (s : ByteArray) : s.data.toList.length = s.size := by simp
/-- What the three numbers' bytes make is the text's beginning. -/
theorem three_nums {s : ByteArray} {y1 y2 y3 q1 q2 q3 : Nat} (h1 : rd s 0 = (0, y1, q1)) (h2 : rd s q1 = (0, y2, q2)) (h3 : rd s q2 = (0, y3, q3)) :
    (numB (unfoldI y1) ++ numB (unfoldI y2) ++ numB (unfoldI y3)).data.toList = s.data.toList.take q3 ∧ q3 ≤ s.size := by
  obtain ⟨a1, a2, a3⟩ := NumRound.rd_inv h1
  obtain ⟨b1, b2, b3⟩ := NumRound.rd_inv h2
  obtain ⟨c1, c2, c3⟩ := NumRound.rd_inv h3
  refine ⟨?_, c2⟩
  have e3 : s.data.toList.take q3 = s.data.toList.take q2 ++ putF 9 y3 := by rw [c1, List.take_add, c3]
  have e2 : s.data.toList.take q2 = s.data.toList.take q1 ++ putF 9 y2 := by rw [b1, List.take_add, b3]
  have e1 : s.data.toList.take q1 = putF 9 y1 := by rw [a1, Nat.zero_add]; simpa using a3
  rw [Crc.data_app, Crc.data_app, numB_data, numB_data, numB_data, NumRound.fold_unfold, NumRound.fold_unfold, NumRound.fold_unfold, e3, e2, e1]
/-- The head that the numbers make is the sector, just if nothing stands behind them. -/
theorem head_same {h : ByteArray} {y1 y2 y3 q1 q2 q3 : Nat} (hk : okSeal h = true) (h4 : 4 ≤ h.size) (h1 : rd (h.extract 0 (h.size - 4)) 0 = (0, y1, q1)) (h2 : rd (h.extract 0 (h.size - 4)) q1 = (0, y2, q2)) (h3 : rd (h.extract 0 (h.size - 4)) q2 = (0, y3, q3)) :
    headB (unfoldI y1) (unfoldI y2) (unfoldI y3) = h ↔ q3 = (h.extract 0 (h.size - 4)).size := by
  obtain ⟨e, hq⟩ := three_nums h1 h2 h3
  have hs : sealB (h.extract 0 (h.size - 4)) = h := by
    have := seal_same h
    rw [hk] at this
    have e2 : (sealB (h.extract 0 (h.size - 4))).toList = h.toList := by simpa using this
    refine ba_ext ?_
    rw [← list_eq, ← list_eq]; exact e2
  have hz : (h.extract 0 (h.size - 4)).size = h.size - 4 := by simp
  unfold headB
  generalize hX : numB (unfoldI y1) ++ numB (unfoldI y2) ++ numB (unfoldI y3) = X at *
  constructor
  · intro hh
    have hn := congrArg ByteArray.size hh
    rw [seal_size] at hn
    have hx : X.size = q3 := by
      rw [← size_list X, e, List.length_take, size_list]; omega
    omega
  · intro hh
    have hx : X = h.extract 0 (h.size - 4) := by
      refine ba_ext ?_
      rw [e, hh, ← size_list, List.take_length]
    rw [hx, hs]

/-- The head of a disk: its number, its side, its size, and the code. -/
def seenO (ls : List ByteArray) (lp : List (Int × ByteArray)) : Int × Int × Int × Int :=
  if (readD ls lp 0).size < 4 then (0, 0, 0, 4) else if okSeal (readD ls lp 0) = false then (0, 0, 0, 5) else
  match headNum ((readD ls lp 0).extract 0 ((readD ls lp 0).size - 4)) with
  | some (g, s, n) => if 0 ≤ g ∧ (0 ≤ s ∧ s ≤ 1) ∧ (0 ≤ n ∧ n ≤ ((64 * halfN ls : Nat) : Int)) then (g, s, n, 0) else (0, 0, 0, 3)
  | none => (0, 0, 0, 3)
/-- The first n bytes of what stands from sector i on, each sector full but the last. -/
def sideK (f : Nat → ByteArray) : Nat → Nat → Nat → Option ByteArray
  | 0, _, n => if n = 0 then some ByteArray.empty else none
  | m + 1, i, n => if n = 0 then some ByteArray.empty else if (f i).size < min 64 n then none else (sideK f m (i + 1) (n - min 64 n)).map (fun r => (f i).extract 0 (min 64 n) ++ r)
def firstN (ls : List ByteArray) (s : Nat) : Nat := 1 + s * halfN ls
/-- What AreaRead tells. -/
def readAO (ls : List ByteArray) (lp : List (Int × ByteArray)) : AOut :=
  if rightB ls lp = true then
    (if (seenO ls lp).2.2.2 = 0 then
      (match sideK (readD ls lp) (halfN ls) (firstN ls (seenO ls lp).2.1.toNat) (seenO ls lp).2.2.1.toNat with
      | some t => ⟨ls, lp, t, (seenO ls lp).1, 0⟩
      | none => illA 5)
    else illA (seenO ls lp).2.2.2)
  else illA 1
end Go.Proofs.YtkigmpeanllimaaGreatDoor.Disk

/- A read of a sector that is there; cells of lists. -/
namespace Go.Proofs.YtkigmpeanllimaaGreatDoor.Disk
open Go.RowKit Go.Proofs.YtkigmpeanllimaaGreatDoor.Mem Go.Proofs.YtkigmpeanllimaaGreatDoor.Harn Go.Proofs.YtkigmpeanllimaaGreatDoor.DiskP

theorem fldO (a b : Value) (t : ByteArray) (c : Int) (w : World) : (Instr.field 69 (.agg #[a, b, .string t, .int .i64 c]) 1).run Tryz.prog w = .ok (.string t) w := by kernel_rfl
theorem specRead_at (vs vp : Value) (ls : List ByteArray) (lp : List (Int × ByteArray)) (k : Nat) (q : ByteArray) (w : World) (hr : rightB ls lp = true) (hk : k < ls.length) (hq : readD ls lp k = q) (hs : Strs w vs ls) (hp : Pends w vp lp) :
    Calls Tryz.prog 39 #[.agg #[vs, vp], .int .i64 (k : Int)] w fun e w' => ∃ us up, e = .returned (outV us up q 0) ∧ Below w.heap.size w w' := by
  have hf := fits_right hr
  have h := specRead_any vs vp ls lp (k : Int) w hs hp hf.n hf.m hf.t hf.y
  rw [readO_ok hr hk, hq] at h
  exact h.mono fun _ _ ⟨us, up, h1, _, h3⟩ => ⟨us, up, h1, h3⟩
theorem implRead_at (vs vp : Value) (ls : List ByteArray) (lp : List (Int × ByteArray)) (k : Nat) (q : ByteArray) (w : World) (hr : rightB ls lp = true) (hk : k < ls.length) (hq : readD ls lp k = q) (hs : Strs w vs ls) (hp : Pends w vp lp) :
    Calls Tryz.prog 57 #[.agg #[vs, vp], .int .i64 (k : Int)] w fun e w' => ∃ us up, e = .returned (outV us up q 0) ∧ Below w.heap.size w w' := by
  have hf := fits_right hr
  have h := implRead_any vs vp ls lp (k : Int) w hs hp hf.n hf.m hf.t hf.y
  rw [readO_ok hr hk, hq] at h
  exact h.mono fun _ _ ⟨us, up, h1, _, h3⟩ => ⟨us, up, h1, h3⟩
theorem strs_at {W : World} {a : Option Addr} {cap : Nat} {l : List ByteArray} (h : Strs W (.slice a l.length cap) l) (j : Nat) (hj : j < l.length) : ∃ b o, a = some ⟨b, o, none⟩ ∧ W.cell? ⟨b, o + j, none⟩ = some (.string l[j]) := by
  obtain ⟨a', c', hv, hc⟩ := h
  cases hv
  exact hc j hj
theorem pends_at {W : World} {a : Option Addr} {cap : Nat} {l : List (Int × ByteArray)} (h : Pends W (.slice a l.length cap) l) (j : Nat) (hj : j < l.length) : ∃ b o, a = some ⟨b, o, none⟩ ∧ W.cell? ⟨b, o + j * 2, none⟩ = some (.int .i64 l[j].1) ∧ W.cell? ⟨b, o + j * 2 + 1, none⟩ = some (.string l[j].2) := by
  obtain ⟨a', c', hv, hc⟩ := h
  cases hv
  exact hc j hj
theorem readD_size {ls : List ByteArray} {lp : List (Int × ByteArray)} (h : rightB ls lp = true) (k : Nat) (hk : k < ls.length) : (readD ls lp k).size ≤ 64 := by
  obtain ⟨_, _, _, h4, h5⟩ := (right_iff ls lp).1 h
  cases e : lastOf lp (k : Int) with
  | none => rw [readD_none e hk]; exact h4 _ (List.getElem_mem hk)
  | some y => rw [readD_some e]; exact (h5 y (lastOf_mem e).1).2.2
end Go.Proofs.YtkigmpeanllimaaGreatDoor.Disk

/- Where a side of an area begins; the lesser of two numbers: the model. -/
namespace Go.Proofs.YtkigmpeanllimaaGreatDoor.Disk
open Go.RowKit Go.Proofs.YtkigmpeanllimaaGreatDoor.Mem Go.Proofs.YtkigmpeanllimaaGreatDoor.Harn Go.Proofs.YtkigmpeanllimaaGreatDoor.DiskP

theorem specMin_any (a b c : Int) (w : World) (h : c = if a < b then a else b) : Calls Tryz.prog 41 #[.int .i64 a, .int .i64 b] w fun e w' => e = .returned (.int .i64 c) ∧ w = w' := by
  subst h
  by_cases hl : a < b
  · rw [if_pos hl]
    go_enter Tryz.func41, Tryz.ntmps41
    go_wp2
    go_ret
    exact ⟨rfl, rfl⟩
  · rw [if_neg hl]
    go_enter Tryz.func41, Tryz.ntmps41
    go_wp2
    go_ret
    exact ⟨rfl, rfl⟩

set_option maxRecDepth 100000 in
set_option maxHeartbeats 1000000 in
theorem specFirst_any (vs vp : Value) (ls : List ByteArray) (s : Nat) (w : World) (hs : Strs w vs ls) (h0 : 1 ≤ ls.length) (h64 : ls.length ≤ 64) (h1 : s ≤ 1) :
    Calls Tryz.prog 40 #[.agg #[vs, vp], .int .i64 (s : Int)] w fun e w' => e = .returned (.int .i64 ((1 + s * halfN ls : Nat) : Int)) ∧ Below w.heap.size w w' := by
  have h31 := halfN_le h64
  have HB0 : Hid (Below w.heap.size w (w.alloc (.cells #[vs, vp] 26))) := bself _
  have K : Hid (Calls Tryz.prog 43 #[.agg #[vs, vp]] (w.alloc (.cells #[vs, vp] 26)) fun e w' => e = .returned (.int .i64 (halfN ls : Nat)) ∧ Below (w.alloc (.cells #[vs, vp] 26)).heap.size (w.alloc (.cells #[vs, vp] 26)) w') := specHalf_any vs vp ls _ (hs.below HB0.out) h0 (by omega)
  clear hs
  generalize halfN ls = hn at *
  have hc : s = 0 ∨ s = 1 := by omega
  rcases hc with rfl | rfl
  all_goals
    go_enter Tryz.func40, Tryz.ntmps40
    go_wp2_with (go_at_call 43; refine K.out.mono ?_; rintro e w1 ⟨rfl, hb1⟩; have HB1 : Hid _ := hb1; clear hb1)
    go_ret
    exact ⟨by simp, bT HB0.out HB1.out⟩
end Go.Proofs.YtkigmpeanllimaaGreatDoor.Disk

/- The text of a side, sector by sector. -/
namespace Go.Proofs.YtkigmpeanllimaaGreatDoor.Disk
open Go.RowKit

theorem side_done (f : Nat → ByteArray) (m i : Nat) : sideK f m i 0 = some ByteArray.empty := by cases m <;> simp [sideK]
theorem side_short {f : Nat → ByteArray} {m i n : Nat} (hn : 0 < n) (h : (f i).size < min 64 n) : sideK f (m + 1) i n = none := by
  rw [sideK, if_neg (by omega), if_pos h]
theorem side_step {f : Nat → ByteArray} {m i n : Nat} (hn : 0 < n) (h : ¬ (f i).size < min 64 n) : sideK f (m + 1) i n = (sideK f m (i + 1) (n - min 64 n)).map (fun r => (f i).extract 0 (min 64 n) ++ r) := by
  rw [sideK, if_neg (by omega), if_neg h]
theorem app_assoc (a b c : ByteArray) : a ++ b ++ c = a ++ (b ++ c) := by
  refine Unseal.ba_ext ?_
  rw [Crc.data_app, Crc.data_app, Crc.data_app, Crc.data_app, List.append_assoc]
theorem empty_app (a : ByteArray) : ByteArray.empty ++ a = a := Unseal.empty_app a
theorem app_empty (a : ByteArray) : a ++ ByteArray.empty = a := by
  refine Unseal.ba_ext ?_
  rw [Crc.data_app]
  exact List.append_nil _
/-- What was gathered so far, and what is still to come. -/
def SideRel (f : Nat → ByteArray) (R : Option ByteArray) (m i n : Nat) (acc : ByteArray) : Prop := R = (sideK f m i n).map (fun r => acc ++ r)
theorem side_rel0 (f : Nat → ByteArray) (m i n : Nat) : SideRel f (sideK f m i n) m i n ByteArray.empty := by
  unfold SideRel
  cases sideK f m i n with
  | none => rfl
  | some r => simp
theorem side_rel1 {f : Nat → ByteArray} {R : Option ByteArray} {m i n : Nat} {acc : ByteArray} (h : SideRel f R (m + 1) i n acc) (hn : 0 < n) (h2 : ¬ (f i).size < min 64 n) : SideRel f R m (i + 1) (n - min 64 n) (acc ++ (f i).extract 0 (min 64 n)) := by
  unfold SideRel at *
  rw [h, side_step hn h2, Option.map_map]
  congr 1
  funext r
  exact (app_assoc _ _ _).symm
theorem side_relN {f : Nat → ByteArray} {R : Option ByteArray} {m i n : Nat} {acc : ByteArray} (h : SideRel f R (m + 1) i n acc) (hn : 0 < n) (h2 : (f i).size < min 64 n) : R = none := by
  rw [h, side_short hn h2]; rfl
theorem side_relS {f : Nat → ByteArray} {R : Option ByteArray} {m i : Nat} {acc : ByteArray} (h : SideRel f R m i 0 acc) : R = some acc := by
  rw [h, side_done]
  simp
end Go.Proofs.YtkigmpeanllimaaGreatDoor.Disk

/- What a head that is read has. -/
namespace Go.Proofs.YtkigmpeanllimaaGreatDoor.Disk
open Go.RowKit Go.Proofs.YtkigmpeanllimaaGreatDoor.DiskP

theorem seen_cases (ls : List ByteArray) (lp : List (Int × ByteArray)) : (∃ (g : Int) (s n : Nat), seenO ls lp = (g, (s : Int), (n : Int), 0) ∧ 0 ≤ g ∧ s ≤ 1 ∧ n ≤ 64 * halfN ls ∧ headNum ((readD ls lp 0).extract 0 ((readD ls lp 0).size - 4)) = some (g, (s : Int), (n : Int)) ∧ ¬ (readD ls lp 0).size < 4 ∧ Unseal.okSeal (readD ls lp 0) = true) ∨ seenO ls lp = (0, 0, 0, 3) ∨ seenO ls lp = (0, 0, 0, 4) ∨ seenO ls lp = (0, 0, 0, 5) := by
  unfold seenO
  split
  · exact .inr (.inr (.inl rfl))
  · rename_i h4
    split
    · exact .inr (.inr (.inr rfl))
    · rename_i hk
      have hk2 : Unseal.okSeal (readD ls lp 0) = true := by simpa using hk
      cases h : headNum ((readD ls lp 0).extract 0 ((readD ls lp 0).size - 4)) with
      | none => exact .inr (.inl rfl)
      | some x =>
        obtain ⟨g, s, n⟩ := x
        dsimp only
        split
        · rename_i hh
          obtain ⟨h1, ⟨h2, h3⟩, h5, h6⟩ := hh
          refine .inl ⟨g, s.toNat, n.toNat, ?_, h1, by omega, by omega, ?_, h4, hk2⟩
          · rw [Int.toNat_of_nonneg h2, Int.toNat_of_nonneg h5]
          · rw [Int.toNat_of_nonneg h2, Int.toNat_of_nonneg h5]
        · exact .inr (.inl rfl)
theorem readAO_form {ls : List ByteArray} {lp : List (Int × ByteArray)} (h : rightB ls lp = false) : readAO ls lp = illA 1 := by unfold readAO; rw [h]; rfl
theorem readAO_code {ls : List ByteArray} {lp : List (Int × ByteArray)} {g s n c : Int} (h : rightB ls lp = true) (h2 : seenO ls lp = (g, s, n, c)) (hc : c ≠ 0) : readAO ls lp = illA c := by unfold readAO; rw [if_pos h, h2]; exact if_neg hc
theorem readAO_ok {ls : List ByteArray} {lp : List (Int × ByteArray)} {g : Int} {s n : Nat} (h : rightB ls lp = true) (h2 : seenO ls lp = (g, (s : Int), (n : Int), 0)) : readAO ls lp = match sideK (readD ls lp) (halfN ls) (firstN ls s) n with
      | some t => ⟨ls, lp, t, g, 0⟩
      | none => illA 5 := by unfold readAO; rw [if_pos h, h2]; rfl
theorem readAO_some {ls : List ByteArray} {lp : List (Int × ByteArray)} {g : Int} {s n : Nat} {t : ByteArray} (h : rightB ls lp = true) (h2 : seenO ls lp = (g, (s : Int), (n : Int), 0)) (h3 : sideK (readD ls lp) (halfN ls) (firstN ls s) n = some t) : readAO ls lp = ⟨ls, lp, t, g, 0⟩ := by rw [readAO_ok h h2, h3]
theorem readAO_none {ls : List ByteArray} {lp : List (Int × ByteArray)} {g : Int} {s n : Nat} (h : rightB ls lp = true) (h2 : seenO ls lp = (g, (s : Int), (n : Int), 0)) (h3 : sideK (readD ls lp) (halfN ls) (firstN ls s) n = none) : readAO ls lp = illA 5 := by rw [readAO_ok h h2, h3]
theorem readAO_fits {ls : List ByteArray} {lp : List (Int × ByteArray)} (h : Fits ls lp) : Fits (readAO ls lp).ls (readAO ls lp).lp := by
  unfold readAO
  split
  · split
    · split
      · exact h
      · exact fits_nil
    · exact fits_nil
  · exact fits_nil
theorem readAO_len {ls : List ByteArray} {lp : List (Int × ByteArray)} (h : Fits ls lp) : (readAO ls lp).ls.length ≤ 1100000 ∧ (readAO ls lp).lp.length ≤ 1100000 := ⟨(readAO_fits h).n, (readAO_fits h).m⟩
end Go.Proofs.YtkigmpeanllimaaGreatDoor.Disk

/- What the model tells beside a code of an area. -/
namespace Go.Proofs.YtkigmpeanllimaaGreatDoor.Disk
open Go.RowKit Go.Proofs.YtkigmpeanllimaaGreatDoor.Mem Go.Proofs.YtkigmpeanllimaaGreatDoor.Harn Go.Proofs.YtkigmpeanllimaaGreatDoor.DiskP

theorem illA_any (c : Int) (w : World) : Calls Tryz.prog 37 #[.int .i64 c] w fun e w' => e = .returned (outA (.slice none 0 0) (.slice none 0 0) ByteArray.empty 0 c) ∧ Below w.heap.size w w' := by
  go_enter Tryz.func37, Tryz.ntmps37
  go_wp2_with fail
  refine bodyPost_ret (v := outA (.slice none 0 0) (.slice none 0 0) ByteArray.empty 0 c) (by simp [results, Tryz.results37, go_sem]; rfl) rfl ⟨rfl, ?_⟩
  first
    | exact (Below.refl _ _).alloc (Nat.le_refl _) _
    | exact (((((bself _).setCell (p := ⟨w.heap.size, 0, none⟩) (by simp) _).setCell (p := ⟨w.heap.size, 1, none⟩) (by simp) _).setCell (p := ⟨w.heap.size, 2, none⟩) (by simp) _).setCell (p := ⟨w.heap.size, 3, none⟩) (by simp) _).setCell (p := ⟨w.heap.size, 4, none⟩) (by simp) _
theorem boxA_set4 {W : World} {b : Nat} {vs vp : Value} {t : ByteArray} {c : Int} (h : Box4 W b) : BoxO ((((W.setCell ⟨b, 0, none⟩ vs).setCell ⟨b, 1, none⟩ vp).setCell ⟨b, 2, none⟩ (.string t)).setCell ⟨b, 3, none⟩ (.int .i64 c)) b vs vp t c := row_set (row_set (row_set (row_set h 0 vs) 1 vp) 2 (.string t)) 3 (.int .i64 c)
theorem onlyA_set4 {W : World} {b : Nat} {v0 v1 v2 v3 : Value} : Only (fun k => k = b) W ((((W.setCell ⟨b, 0, none⟩ v0).setCell ⟨b, 1, none⟩ v1).setCell ⟨b, 2, none⟩ v2).setCell ⟨b, 3, none⟩ v3) := (onlyA_set2.trans (onlyA_set1 _ b 2 v2)).trans (onlyA_set1 _ b 3 v3)
theorem cellA_far4 {W : World} {b k o : Nat} {v0 v1 v2 v3 : Value} (h : b ≠ k) (hk : k < W.heap.size) : ((((W.setCell ⟨b, 0, none⟩ v0).setCell ⟨b, 1, none⟩ v1).setCell ⟨b, 2, none⟩ v2).setCell ⟨b, 3, none⟩ v3).cell? ⟨k, o, none⟩ = W.cell? ⟨k, o, none⟩ := onlyA_set4.cell (a := ⟨k, o, none⟩) hk (fun e => h e.symm)
end Go.Proofs.YtkigmpeanllimaaGreatDoor.Disk

/- The steps by which a text is put, and what AreaPut tells. -/
namespace Go.Proofs.YtkigmpeanllimaaGreatDoor.Disk
open Go.RowKit Go.Proofs.YtkigmpeanllimaaGreatDoor.Mem Go.Proofs.YtkigmpeanllimaaGreatDoor.Harn Go.Proofs.YtkigmpeanllimaaGreatDoor.DiskP

/-- The k-th piece of a text. -/
def pieceN (s : ByteArray) (k : Nat) : ByteArray := s.extract (64 * k) (min s.size (64 * (k + 1)))
def textN (s : ByteArray) : Nat := (s.size + 63) / 64
/-- The first k writes of a text. -/
def preS (s : ByteArray) (st k : Nat) : List Step := (List.range k).map fun j => (false, ((st + j : Nat) : Int), pieceN s j)
def textS (s : ByteArray) (st : Nat) : List Step := preS s st (textN s) ++ [(true, 0, ByteArray.empty)]
def allS (s : ByteArray) (st : Nat) (g sd : Int) : List Step := textS s st ++ [(false, 0, headB g sd s.size), (true, 0, ByteArray.empty)]
theorem preS_succ (s : ByteArray) (st k : Nat) : preS s st (k + 1) = preS s st k ++ [(false, ((st + k : Nat) : Int), pieceN s k)] := by
  unfold preS
  rw [List.range_succ, List.map_append]
  rfl
theorem preS_len (s : ByteArray) (st k : Nat) : (preS s st k).length = k := by unfold preS; simp
theorem textS_len (s : ByteArray) (st : Nat) : (textS s st).length = textN s + 1 := by unfold textS; simp [preS_len]
theorem allS_len (s : ByteArray) (st : Nat) (g sd : Int) : (allS s st g sd).length = textN s + 3 := by unfold allS; simp [textS_len]
theorem piece_size (s : ByteArray) (k : Nat) : (pieceN s k).size ≤ 64 := by unfold pieceN; simp; omega
theorem at_of {l : List Step} {k : Nat} {y : Step} (h : l[k]? = some y) (hk : k < l.length) : l[k] = y := (List.getElem?_eq_some_iff.1 h).2
theorem allS_write (s : ByteArray) (st : Nat) (g sd : Int) (k : Nat) (h : k < textN s) (hk : k < (allS s st g sd).length) : (allS s st g sd)[k] = (false, ((st + k : Nat) : Int), pieceN s k) := by
  refine at_of ?_ hk
  unfold allS
  rw [List.getElem?_append_left (by rw [textS_len]; omega)]
  unfold textS
  rw [List.getElem?_append_left (by rw [preS_len]; exact h)]
  unfold preS
  simp [h]
theorem allS_flush (s : ByteArray) (st : Nat) (g sd : Int) (k : Nat) (h : k = textN s) (hk : k < (allS s st g sd).length) : (allS s st g sd)[k] = (true, 0, ByteArray.empty) := by
  refine at_of ?_ hk
  unfold allS
  rw [List.getElem?_append_left (by rw [textS_len]; omega)]
  unfold textS
  rw [List.getElem?_append_right (by rw [preS_len]; omega), preS_len, h]
  simp
theorem allS_head (s : ByteArray) (st : Nat) (g sd : Int) (k : Nat) (h : k = textN s + 1) (hk : k < (allS s st g sd).length) : (allS s st g sd)[k] = (false, 0, headB g sd s.size) := by
  refine at_of ?_ hk
  unfold allS
  rw [List.getElem?_append_right (by rw [textS_len]; omega), textS_len, h]
  simp
theorem allS_last (s : ByteArray) (st : Nat) (g sd : Int) (k : Nat) (h : k = textN s + 2) (hk : k < (allS s st g sd).length) : (allS s st g sd)[k] = (true, 0, ByteArray.empty) := by
  refine at_of ?_ hk
  unfold allS
  rw [List.getElem?_append_right (by rw [textS_len]; omega), textS_len, h]
  simp
theorem allS_sizes (s : ByteArray) (st : Nat) (g sd : Int) : ∀ y ∈ allS s st g sd, y.2.2.size ≤ 1048576 := by
  have hh := headB_size g sd (s.size : Int)
  intro y hy
  simp only [allS, textS, List.mem_append, List.mem_cons, List.not_mem_nil, or_false] at hy
  rcases hy with (hy | rfl) | rfl | rfl
  · unfold preS at hy
    obtain ⟨j, _, rfl⟩ := List.mem_map.1 hy
    have := piece_size s j
    simp only
    omega
  · simp
  · simp only
    omega
  · simp
/-- The side that the head names. -/
def sideN (ls : List ByteArray) (lp : List (Int × ByteArray)) : Nat := (seenO ls lp).2.1.toNat
/-- What AreaPut tells. -/
def putAO (ls : List ByteArray) (lp : List (Int × ByteArray)) (s : ByteArray) (x : Int) : AOut :=
  if 8000 < s.size then illA 2 else if (readAO ls lp).c = 0 then
    (if 64 * halfN ls < s.size ∨ 1000000 ≤ (readAO ls lp).g then illA 9
     else runO ls lp ((allS s (firstN ls (1 - sideN ls lp)) ((readAO ls lp).g + 1) ((1 - sideN ls lp : Nat) : Int)).take x.toNat))
  else illA (readAO ls lp).c
theorem putAO_fits {ls : List ByteArray} {lp : List (Int × ByteArray)} (s : ByteArray) (x : Int) (h : Fits ls lp) : Fits (putAO ls lp s x).ls (putAO ls lp s x).lp := by
  unfold putAO
  split
  · exact fits_nil
  · split
    · split
      · exact fits_nil
      · exact runO_fits _ ls lp h
    · exact fits_nil
theorem putAO_len {ls : List ByteArray} {lp : List (Int × ByteArray)} {s : ByteArray} {x : Int} (h : Fits ls lp) : (putAO ls lp s x).ls.length ≤ 1100000 ∧ (putAO ls lp s x).lp.length ≤ 1100000 := ⟨(putAO_fits s x h).n, (putAO_fits s x h).m⟩
theorem putAO_size {ls : List ByteArray} {lp : List (Int × ByteArray)} {s : ByteArray} {x : Int} (h : 8000 < s.size) : putAO ls lp s x = illA 2 := by unfold putAO; rw [if_pos h]
theorem putAO_code {ls : List ByteArray} {lp : List (Int × ByteArray)} {s : ByteArray} {x c : Int} (h : ¬ 8000 < s.size) (h2 : readAO ls lp = illA c) (hc : c ≠ 0) : putAO ls lp s x = illA c := by unfold putAO; rw [if_neg h, h2]; exact if_neg hc
theorem putAO_full {ls : List ByteArray} {lp : List (Int × ByteArray)} {s t : ByteArray} {x g : Int} (h : ¬ 8000 < s.size) (h2 : readAO ls lp = ⟨ls, lp, t, g, 0⟩) (hc : 64 * halfN ls < s.size ∨ 1000000 ≤ g) : putAO ls lp s x = illA 9 := by unfold putAO; rw [if_neg h, h2]; simp only; rw [if_pos trivial, if_pos hc]
theorem putAO_ok {ls : List ByteArray} {lp : List (Int × ByteArray)} {s t : ByteArray} {x g : Int} {sd n : Nat} (h : ¬ 8000 < s.size) (h2 : readAO ls lp = ⟨ls, lp, t, g, 0⟩) (hs : seenO ls lp = (g, (sd : Int), (n : Int), 0)) (hc : ¬ (64 * halfN ls < s.size ∨ 1000000 ≤ g)) : putAO ls lp s x = runO ls lp ((allS s (firstN ls (1 - sd)) (g + 1) ((1 - sd : Nat) : Int)).take x.toNat) := by
  unfold putAO sideN
  rw [if_neg h, h2, hs]
  simp only
  rw [if_pos trivial, if_neg hc]
  simp

/-- The steps' cells. -/
def scells : List Step → List Value
  | [] => []
  | y :: r => .bool y.1 :: .int .i64 y.2.1 :: .string y.2.2 :: scells r
theorem scells_app (l m : List Step) : scells (l ++ m) = scells l ++ scells m := by
  induction l with
  | nil => rfl
  | cons y r ih => simp [scells, ih]
theorem scells_len (l : List Step) : (scells l).length = l.length * 3 := by
  induction l with
  | nil => rfl
  | cons y r ih => simp only [scells, List.length_cons, ih]; omega
theorem scells_at (l : List Step) (j : Nat) (hj : j < l.length) : (scells l)[j * 3]? = some (.bool l[j].1) ∧ (scells l)[j * 3 + 1]? = some (.int .i64 l[j].2.1) ∧ (scells l)[j * 3 + 2]? = some (.string l[j].2.2) := by
  induction l generalizing j with
  | nil => simp at hj
  | cons y r ih =>
    cases j with
    | zero => exact ⟨rfl, rfl, rfl⟩
    | succ j =>
      have h := ih j (by simpa using hj)
      rw [show (j + 1) * 3 = j * 3 + 1 + 1 + 1 by omega]
      simpa [scells] using h
/-- A list of steps that owns its row, or is nil. -/
def OwnS (W : World) (base : Nat) (v : Value) (l : List Step) : Prop := W.ownsRow base 97 3 v l.length (scells l)
theorem ownS_nil (W : World) (base : Nat) : OwnS W base (.slice none 0 0) [] := World.ownsRow_nil _ _ _ _
theorem OwnS.same {W W' : World} {base B : Nat} {v : Value} {l : List Step} (h : OwnS W base v l) (hb : ∀ g, v.ownBlock = some g → W'.heap[g]? = W.heap[g]?) (hB : B ≤ base) : OwnS W' B v l := by
  obtain ⟨h1, h2⟩ := h
  refine ⟨h1, ?_⟩
  rcases h2 with ⟨rfl, h2⟩ | ⟨g, cap, cur, rfl, e2, e3, e4⟩
  · exact .inl ⟨rfl, h2⟩
  · exact .inr ⟨g, cap, cur, rfl, by omega, (hb g rfl).trans e3, e4⟩
theorem OwnS.below {W W' : World} {base : Nat} {v : Value} {l : List Step} (h : OwnS W base v l) (hb : Below W.heap.size W W') : OwnS W' base v l := h.same (fun g hg => hb.block g (World.ownsRow.lt h g hg).2) (Nat.le_refl _)
theorem OwnS.steps {W : World} {base : Nat} {v : Value} {l : List Step} (h : OwnS W base v l) : Steps W v l := by
  have h0 := h
  rcases h.2 with ⟨rfl, hn⟩ | ⟨g, cap, cur, rfl, _⟩
  · exact ⟨none, 0, by rw [hn], fun j hj => by omega⟩
  · refine ⟨some ⟨g, 0, none⟩, cap, rfl, fun j hj => ⟨g, 0, rfl, ?_⟩⟩
    obtain ⟨q1, q2, q3⟩ := scells_at l j hj
    simp only [Nat.zero_add]
    exact ⟨(World.ownsRow.cellAt h0 (j * 3) (by omega)).trans q1, (World.ownsRow.cellAt h0 (j * 3 + 1) (by omega)).trans q2, (World.ownsRow.cellAt h0 (j * 3 + 2) (by omega)).trans q3⟩
theorem infoStep : (Tryz.prog.info? 97).map (fun i => (i.zero, i.size, i.bytes)) = some (some (.agg #[.bool false, .int .i64 0, .string ByteArray.empty]), 3, 32) := by kernel_rfl
theorem underSteps : Tryz.prog.underlying 58 = some (.slice 97) := by kernel_rfl
theorem steps_news {W : World} {b o c : Nat} {m : List Step} (h : Steps W (.slice (some ⟨b, o, none⟩) m.length c) m) : ∀ j u, (scells m)[j]? = some u → W.cell? ((⟨b, o, none⟩ : Addr).add j) = some u := fun j u hu => by
  have hl := scells_len m
  have hj : j < (scells m).length := by
    rcases Nat.lt_or_ge j (scells m).length with h | h
    · exact h
    · rw [List.getElem?_eq_none h] at hu; cases hu
  obtain ⟨q1, q2, q3⟩ := scells_at m (j / 3) (by omega)
  obtain ⟨a, cap, hv, hc⟩ := h
  cases hv
  obtain ⟨b', o', e, c1, c2, c3⟩ := hc (j / 3) (by omega)
  cases e
  have hadd : (⟨b, o, none⟩ : Addr).add j = ⟨b, o + j, none⟩ := by unfold Addr.add; split <;> simp_all
  rw [hadd]
  have h3 : j % 3 = 0 ∨ j % 3 = 1 ∨ j % 3 = 2 := by omega
  rcases h3 with h3 | h3 | h3
  · rw [show j / 3 * 3 = j by omega] at q1 c1
    rw [c1, ← q1, hu]
  · rw [show o + j / 3 * 3 + 1 = o + j by omega] at c2
    rw [show j / 3 * 3 + 1 = j by omega] at q2
    rw [c2, ← q2, hu]
  · rw [show o + j / 3 * 3 + 2 = o + j by omega] at c3
    rw [show j / 3 * 3 + 2 = j by omega] at q3
    rw [c3, ← q3, hu]
/-- Steps behind steps that own their row, or are nil. -/
theorem app_steps (ty : TypeId) (base b o c : Nat) (v : Value) (l m : List Step) (W : World) (h : OwnS W base v l) (hbase : base ≤ W.heap.size) (hm : Steps W (.slice (some ⟨b, o, none⟩) m.length c) m) (h0 : 0 < m.length) (hn : l.length + m.length ≤ 1100000) :
    ∃ g' cap W1, (Builtin.append_ #[58, 58] ty #[v, .slice (some ⟨b, o, none⟩) m.length c]).run Tryz.prog W = .ok (.slice (some ⟨g', 0, none⟩) (l.length + m.length) cap) W1 ∧ OwnS W1 base (.slice (some ⟨g', 0, none⟩) (l.length + m.length) cap) (l ++ m) ∧ g' < W1.heap.size ∧ W.grownBy W1 v.ownBlock := by
  obtain ⟨i, hi0, hz0, hz1, hz2⟩ := info_parts infoStep
  obtain ⟨g', cap, W1, hr, hown, hgr, hat, hlt⟩ := run_append_lies (P := Tryz.prog) W 58 ty base 97 i (.agg #[.bool false, .int .i64 0, .string ByteArray.empty]) 3 32 underSteps hi0 hz0 hz1 hz2 rfl (by omega) v l.length (scells l) h ⟨b, o, none⟩ m.length c (scells m) (by rw [scells_len]) (steps_news hm) (by
      intro u hu
      clear hm h0 hn
      induction m with
      | nil => simp [scells] at hu
      | cons y r ih =>
        simp only [scells, List.mem_cons] at hu
        rcases hu with rfl | rfl | rfl | hu
        · rfl
        · rfl
        · rfl
        · exact ih hu) (by omega) (by unfold maxLen; omega) (by omega) hbase W.heap.size rfl
  refine ⟨g', cap, W1, hr, ?_, hlt, hgr⟩
  unfold OwnS
  rw [scells_app, List.length_append]
  exact hown
end Go.Proofs.YtkigmpeanllimaaGreatDoor.Disk

/- What is read of an area behind the steps of a put, and behind a crash: plain. -/
namespace Go.Proofs.YtkigmpeanllimaaGreatDoor.Disk
open Go.RowKit Go.Proofs.YtkigmpeanllimaaGreatDoor.Mem Go.Proofs.YtkigmpeanllimaaGreatDoor.Harn Go.Proofs.YtkigmpeanllimaaGreatDoor.DiskP Go.Proofs.YtkigmpeanllimaaGreatDoor.GetNum Go.Proofs.YtkigmpeanllimaaGreatDoor.PutNum Go.Proofs.YtkigmpeanllimaaGreatDoor.Seal Go.Proofs.YtkigmpeanllimaaGreatDoor.Unseal

/-- A side depends on its own sectors alone. -/
theorem side_same (f h : Nat → ByteArray) : ∀ (m i n : Nat), (∀ j, i ≤ j → j < i + m → f j = h j) → sideK f m i n = sideK h m i n
  | 0, _, _, _ => rfl
  | m + 1, i, n, e => by
    rw [sideK, sideK, e i (by omega) (by omega), side_same f h m (i + 1) (n - min 64 n) (fun j h1 h2 => e j (by omega) (by omega))]
theorem seen_same {ls l2 : List ByteArray} {lp p2 : List (Int × ByteArray)} (hl : ls.length = l2.length) (h0 : readD ls lp 0 = readD l2 p2 0) : seenO ls lp = seenO l2 p2 := by
  have hh : halfN ls = halfN l2 := by unfold halfN; rw [hl]
  unfold seenO
  rw [h0, hh]
/-- Where the head and its side are as they were, what is read is what there was. -/
theorem read_same {ls l2 : List ByteArray} {lp p2 : List (Int × ByteArray)} {t : ByteArray} {g : Int} {s n : Nat} (hr : rightB ls lp = true) (hr2 : rightB l2 p2 = true) (hl : ls.length = l2.length) (h0 : readD ls lp 0 = readD l2 p2 0) (hs : seenO ls lp = (g, (s : Int), (n : Int), 0)) (hd : ∀ j, j < halfN ls → readD ls lp (firstN ls s + j) = readD l2 p2 (firstN ls s + j)) (h : readAO ls lp = ⟨ls, lp, t, g, 0⟩) : readAO l2 p2 = ⟨l2, p2, t, g, 0⟩ := by
  have hh : halfN ls = halfN l2 := by unfold halfN; rw [hl]
  have hf : firstN ls s = firstN l2 s := by unfold firstN; rw [hh]
  have hs2 : seenO l2 p2 = (g, (s : Int), (n : Int), 0) := by rw [← seen_same hl h0]; exact hs
  have e : sideK (readD ls lp) (halfN ls) (firstN ls s) n = sideK (readD l2 p2) (halfN l2) (firstN l2 s) n := by
    rw [← hh, ← hf]
    exact side_same _ _ _ _ _ (fun j h1 h2 => by
      have := hd (j - firstN ls s) (by omega)
      rw [show firstN ls s + (j - firstN ls s) = j by omega] at this
      exact this)
  rw [readAO_ok hr hs] at h
  cases hk : sideK (readD ls lp) (halfN ls) (firstN ls s) n with
  | none => rw [hk] at h; simp [illA] at h
  | some t2 =>
    rw [hk] at h
    simp only [AOut.mk.injEq] at h
    obtain ⟨_, _, rfl, _⟩ := h
    exact readAO_some hr2 hs2 (by rw [← e]; exact hk)
/-- The pieces of a text are read as the text. -/
theorem side_pieces (f : Nat → ByteArray) (s : ByteArray) : ∀ (m k i : Nat), s.size ≤ 64 * (k + m) → (∀ j, k + j < textN s → f (i + j) = pieceN s (k + j)) → sideK f m i (s.size - 64 * k) = some (s.extract (64 * k) s.size)
  | 0, k, i, h, _ => by
    have : s.size - 64 * k = 0 := by omega
    rw [this, side_done]
    congr 1
    refine ba_ext ?_
    simp
    omega
  | m + 1, k, i, h, e => by
    by_cases hz : s.size ≤ 64 * k
    · have : s.size - 64 * k = 0 := by omega
      rw [this, side_done]
      congr 1
      refine ba_ext ?_
      simp
      omega
    · have hk : k < textN s := by unfold textN; omega
      have hf : f i = pieceN s k := by have := e 0 (by omega); simpa using this
      have hp : (pieceN s k).size = min 64 (s.size - 64 * k) := by unfold pieceN; simp; omega
      rw [side_step (by omega) (by rw [hf, hp]; omega)]
      have ih := side_pieces f s m (k + 1) (i + 1) (by omega) (fun j hj => by have := e (j + 1) (by omega); rw [show i + 1 + j = i + (j + 1) by omega, show k + 1 + j = k + (j + 1) by omega]; exact this)
      rw [show s.size - 64 * k - min 64 (s.size - 64 * k) = s.size - 64 * (k + 1) by omega, ih, hf, ← hp]
      simp only [Option.map_some, Option.some.injEq]
      have e1 : (pieceN s k).extract 0 (pieceN s k).size = pieceN s k := by simp
      rw [e1]
      unfold pieceN
      by_cases hq : 64 * (k + 1) ≤ s.size
      · rw [Nat.min_eq_right hq, ByteArray.extract_append_extract, Nat.min_eq_left (by omega), Nat.max_eq_right hq]
      · have e2 : s.extract (64 * (k + 1)) s.size = ByteArray.empty := by
          refine ba_ext ?_
          simp
          omega
        rw [e2, ByteArray.append_empty, Nat.min_eq_left (by omega)]
/-- A number is read where it stands. -/
theorem rd_at (pre post : ByteArray) (n : Int) (h1 : -9223372036854775808 ≤ n) (h2 : n ≤ 9223372036854775807) : rd (pre ++ numB n ++ post) pre.size = (0, foldN n, pre.size + (numB n).size) := by
  have hu : foldN n < 18446744073709551616 := by unfold foldN; split <;> omega
  have hl : (putF 9 (foldN n)).length = (numB n).size := by rw [← numB_data, size_list]
  have hz : (pre ++ numB n ++ post).size = pre.size + (numB n).size + post.size := by simp
  have h := NumRound.rd_put (pre ++ numB n ++ post) pre.size (foldN n) hu (by rw [hl, hz]; omega) (fun i hi => by
    rw [NumRound.at_list, Crc.data_app, Crc.data_app, ← numB_data]
    rw [List.getElem?_append_left (by simp; rw [hl] at hi; omega), List.getElem?_append_right (by simp)]
    simp)
  rw [hl] at h
  exact h
/-- The head's numbers come back. -/
theorem headNum_put (a b c : Int) (ha1 : -9223372036854775808 ≤ a) (ha2 : a ≤ 9223372036854775807) (hb1 : -9223372036854775808 ≤ b) (hb2 : b ≤ 9223372036854775807) (hc1 : -9223372036854775808 ≤ c) (hc2 : c ≤ 9223372036854775807) : headNum (numB a ++ numB b ++ numB c) = some (a, b, c) := by
  have e1 : rd (numB a ++ numB b ++ numB c) 0 = (0, foldN a, (numB a).size) := by
    have h := rd_at ByteArray.empty (numB b ++ numB c) a ha1 ha2
    rw [empty_app, ← app_assoc] at h
    simpa using h
  have e2 : rd (numB a ++ numB b ++ numB c) (numB a).size = (0, foldN b, (numB a).size + (numB b).size) := rd_at (numB a) (numB c) b hb1 hb2
  have e3 : rd (numB a ++ numB b ++ numB c) ((numB a).size + (numB b).size) = (0, foldN c, (numB a).size + (numB b).size + (numB c).size) := by
    have h := rd_at (numB a ++ numB b) ByteArray.empty c hc1 hc2
    rw [app_empty] at h
    simpa using h
  unfold headNum
  rw [e1]
  dsimp only
  rw [e2]
  dsimp only
  rw [e3]
  dsimp only
  rw [if_pos ⟨rfl, rfl, rfl, by simp⟩, NumRound.unfold_fold, NumRound.unfold_fold, NumRound.unfold_fold]
/-- A head that stands there is read. -/
theorem seen_head {ls : List ByteArray} {lp : List (Int × ByteArray)} {g : Int} {sd n : Nat} (hg : 0 ≤ g) (hg2 : g ≤ 9223372036854775807) (hs : sd ≤ 1) (hn : n ≤ 64 * halfN ls) (hn2 : n ≤ 1000000) (h : readD ls lp 0 = headB g sd n) : seenO ls lp = (g, (sd : Int), (n : Int), 0) := by
  have hz : (headB g sd n).size = (numB g ++ numB sd ++ numB n).size + 4 := seal_size _
  have hi : (headB g sd n).extract 0 ((headB g sd n).size - 4) = numB g ++ numB sd ++ numB n := inner_seal _
  have hk : okSeal (headB g sd n) = true := seal_ok _
  unfold seenO
  rw [h, if_neg (by omega), if_neg (by rw [hk]; decide), hi, headNum_put g sd n (by omega) (by omega) (by omega) (by omega) (by omega) (by omega)]
  dsimp only
  rw [if_pos (by omega)]
/-- A head and the pieces of its text: that text is read. -/
theorem read_new {ls : List ByteArray} {lp : List (Int × ByteArray)} {s : ByteArray} {g : Int} {sd : Nat} (hr : rightB ls lp = true) (hg : 0 ≤ g) (hg2 : g ≤ 9223372036854775807) (hs : sd ≤ 1) (hn : s.size ≤ 64 * halfN ls) (h0 : readD ls lp 0 = headB g sd s.size) (hp : ∀ k, k < textN s → readD ls lp (firstN ls sd + k) = pieceN s k) : readAO ls lp = ⟨ls, lp, s, g, 0⟩ ∧ seenO ls lp = (g, (sd : Int), (s.size : Int), 0) := by
  have h31 := halfN_le ((right_iff ls lp).1 hr).2.1
  have hsn := seen_head hg hg2 hs hn (by omega) h0
  refine ⟨readAO_some hr hsn ?_, hsn⟩
  have h := side_pieces (readD ls lp) s (halfN ls) 0 (firstN ls sd) (by omega) (fun j hj => by rw [Nat.zero_add] at hj ⊢; exact hp j hj)
  rw [show s.size - 64 * 0 = s.size by omega] at h
  rw [h]
  simp
end Go.Proofs.YtkigmpeanllimaaGreatDoor.Disk

/- A put, whole or torn, and a crash: what is read. -/
namespace Go.Proofs.YtkigmpeanllimaaGreatDoor.Disk
open Go.RowKit Go.Proofs.YtkigmpeanllimaaGreatDoor.Mem Go.Proofs.YtkigmpeanllimaaGreatDoor.Harn Go.Proofs.YtkigmpeanllimaaGreatDoor.DiskP

theorem runO_app (b : List Step) : ∀ (a : List Step) (ls : List ByteArray) (lp : List (Int × ByteArray)), (runO ls lp (a ++ b)).c = 0 → (runO ls lp a).c = 0 ∧ runO ls lp (a ++ b) = runO (runO ls lp a).ls (runO ls lp a).lp b
  | [], _, _, h => ⟨rfl, rfl⟩
  | y :: r, ls, lp, h => by
    by_cases hc : (stepO ls lp y).c = 0
    · have e1 : runO ls lp (y :: (r ++ b)) = runO (stepO ls lp y).ls (stepO ls lp y).lp (r ++ b) := if_pos hc
      have e2 : runO ls lp (y :: r) = runO (stepO ls lp y).ls (stepO ls lp y).lp r := if_pos hc
      rw [List.cons_append, e1] at h ⊢
      rw [e2]
      exact runO_app b r _ _ h
    · have e1 : runO ls lp (y :: (r ++ b)) = illA (stepO ls lp y).c := if_neg hc
      rw [List.cons_append, e1] at h
      exact absurd h hc
theorem runO_right (σ : List Step) : ∀ (ls : List ByteArray) (lp : List (Int × ByteArray)), rightB ls lp = true → (runO ls lp σ).c = 0 → rightB (runO ls lp σ).ls (runO ls lp σ).lp = true ∧ (runO ls lp σ).ls.length = ls.length := by
  induction σ with
  | nil => intro ls lp hr _; exact ⟨hr, rfl⟩
  | cons y r ih =>
    intro ls lp hr h
    by_cases hc : (stepO ls lp y).c = 0
    · have e1 : runO ls lp (y :: r) = runO (stepO ls lp y).ls (stepO ls lp y).lp r := if_pos hc
      rw [e1] at h ⊢
      have hr2 : rightB (stepO ls lp y).ls (stepO ls lp y).lp = true ∧ (stepO ls lp y).ls.length = ls.length := by
        unfold stepO at hc ⊢
        split
        · rename_i hy
          rw [if_pos hy] at hc
          have hw := flushO_flushed ls lp
          exact ⟨hw.r hc, by rw [(hw.l hc).1, length_flushD]⟩
        · rename_i hy
          rw [if_neg hy] at hc
          have hw := writeO_wrote ls lp y.2.1 y.2.2
          exact ⟨hw.r hc, by rw [(hw.l hc).1]⟩
      obtain ⟨h1, h2⟩ := ih _ _ hr2.1 h
      exact ⟨h1, h2.trans hr2.2⟩
    · have e1 : runO ls lp (y :: r) = illA (stepO ls lp y).c := if_neg hc
      rw [e1] at h
      exact absurd h hc
theorem runO_flush {ls : List ByteArray} {lp : List (Int × ByteArray)} (h : (runO ls lp [(true, 0, ByteArray.empty)]).c = 0) : (runO ls lp [(true, 0, ByteArray.empty)]).ls = flushD ls lp ∧ (runO ls lp [(true, 0, ByteArray.empty)]).lp = [] := by
  have hs : stepO ls lp (true, 0, ByteArray.empty) = flushO ls lp := rfl
  by_cases hc : (flushO ls lp).c = 0
  · have e1 : runO ls lp [(true, 0, ByteArray.empty)] = ⟨(flushO ls lp).ls, (flushO ls lp).lp, ByteArray.empty, 0, 0⟩ := if_pos hc
    rw [e1]
    exact (flushO_flushed ls lp).l hc
  · have e1 : runO ls lp [(true, 0, ByteArray.empty)] = illA (flushO ls lp).c := if_neg hc
    rw [e1] at h
    exact absurd h hc
theorem runO_write {ls : List ByteArray} {lp : List (Int × ByteArray)} {x : Int} {t : ByteArray} (h : (runO ls lp [(false, x, t)]).c = 0) : (runO ls lp [(false, x, t)]).ls = ls ∧ (runO ls lp [(false, x, t)]).lp = lp ++ [(x, t)] := by
  by_cases hc : (writeO ls lp x t).c = 0
  · have e1 : runO ls lp [(false, x, t)] = ⟨(writeO ls lp x t).ls, (writeO ls lp x t).lp, ByteArray.empty, 0, 0⟩ := if_pos hc
    rw [e1]
    exact (writeO_wrote ls lp x t).l hc
  · have e1 : runO ls lp [(false, x, t)] = illA (writeO ls lp x t).c := if_neg hc
    rw [e1] at h
    exact absurd h hc
/-- The pending writes of the first k pieces. -/
def preP (s : ByteArray) (st k : Nat) : List (Int × ByteArray) := (List.range k).map fun j => (((st + j : Nat) : Int), pieceN s j)
theorem preP_succ (s : ByteArray) (st k : Nat) : preP s st (k + 1) = preP s st k ++ [(((st + k : Nat) : Int), pieceN s k)] := by
  unfold preP
  rw [List.range_succ, List.map_append]
  rfl
theorem runO_pre (s : ByteArray) (st : Nat) (ls : List ByteArray) (lp : List (Int × ByteArray)) : ∀ k, (runO ls lp (preS s st k)).c = 0 → (runO ls lp (preS s st k)).ls = ls ∧ (runO ls lp (preS s st k)).lp = lp ++ preP s st k
  | 0, _ => ⟨rfl, by show lp = lp ++ []; simp⟩
  | k + 1, h => by
    rw [preS_succ] at h ⊢
    obtain ⟨h1, h2⟩ := runO_app _ _ _ _ h
    obtain ⟨e1, e2⟩ := runO_pre s st ls lp k h1
    rw [h2, e1, e2] at h ⊢
    obtain ⟨f1, f2⟩ := runO_write h
    rw [f1, f2, preP_succ, List.append_assoc]
    exact ⟨rfl, rfl⟩
/-- Where nothing of a list lies, there is what there was. -/
theorem read_far (ls : List ByteArray) (lq : List (Int × ByteArray)) (k : Nat) (hk : k < ls.length) (h : ∀ y ∈ lq, y.1 ≠ (k : Int)) : readD ls lq k = readD ls [] k := by
  have hn : lastOf lq (k : Int) = none := by
    cases e : lastOf lq (k : Int) with
    | none => rfl
    | some y => exact absurd (lastOf_mem e).2 (h y (lastOf_mem e).1)
  rw [readD_none hn hk, readD_nil ls k hk]
theorem read_pre (s : ByteArray) (st : Nat) (ls : List ByteArray) (lp : List (Int × ByteArray)) : ∀ k j, j < k → readD ls (lp ++ preP s st k) (st + j) = pieceN s j
  | 0, _, h => by omega
  | k + 1, j, h => by
    rw [preP_succ, ← List.append_assoc, readD_snoc]
    by_cases e : j = k
    · rw [e, if_pos rfl]
    · rw [if_neg (by simp; omega)]
      exact read_pre s st ls lp k j (by omega)
theorem flush_pos {ls : List ByteArray} {lp : List (Int × ByteArray)} (h : rightB ls lp = true) : ∀ y ∈ lp, 0 ≤ y.1 := fun y hy => ((right_pends h).1 y hy).1
/-- The disk behind the text's steps, and behind all. -/
def midD (ls : List ByteArray) (lp : List (Int × ByteArray)) (s : ByteArray) (st : Nat) : List ByteArray := flushD ls (lp ++ preP s st (textN s))
def endD (ls : List ByteArray) (lp : List (Int × ByteArray)) (s : ByteArray) (st : Nat) (hd : ByteArray) : List ByteArray := flushD (midD ls lp s st) [(0, hd)]
theorem run_text {ls : List ByteArray} {lp : List (Int × ByteArray)} {s : ByteArray} {st : Nat} (h : (runO ls lp (textS s st)).c = 0) : (runO ls lp (textS s st)).ls = midD ls lp s st ∧ (runO ls lp (textS s st)).lp = [] ∧ (runO ls lp (preS s st (textN s))).c = 0 := by
  unfold textS at h ⊢
  obtain ⟨h1, h2⟩ := runO_app _ _ _ _ h
  obtain ⟨e1, e2⟩ := runO_pre s st ls lp _ h1
  rw [h2, e1, e2] at h ⊢
  obtain ⟨f1, f2⟩ := runO_flush h
  exact ⟨f1, f2, h1⟩
theorem run_headed {ls : List ByteArray} {lp : List (Int × ByteArray)} {s : ByteArray} {st : Nat} {hd : ByteArray} (h : (runO ls lp (textS s st ++ [(false, 0, hd)])).c = 0) : (runO ls lp (textS s st ++ [(false, 0, hd)])).ls = midD ls lp s st ∧ (runO ls lp (textS s st ++ [(false, 0, hd)])).lp = [(0, hd)] ∧ (runO ls lp (textS s st)).c = 0 := by
  obtain ⟨h1, h2⟩ := runO_app _ _ _ _ h
  obtain ⟨e1, e2, _⟩ := run_text h1
  rw [h2, e1, e2] at h ⊢
  obtain ⟨f1, f2⟩ := runO_write h
  exact ⟨f1, f2, h1⟩
theorem run_all {ls : List ByteArray} {lp : List (Int × ByteArray)} {s : ByteArray} {st : Nat} {hd : ByteArray} (h : (runO ls lp (textS s st ++ [(false, 0, hd), (true, 0, ByteArray.empty)])).c = 0) : (runO ls lp (textS s st ++ [(false, 0, hd), (true, 0, ByteArray.empty)])).ls = endD ls lp s st hd ∧ (runO ls lp (textS s st ++ [(false, 0, hd), (true, 0, ByteArray.empty)])).lp = [] ∧ (runO ls lp (textS s st ++ [(false, 0, hd)])).c = 0 := by
  have e0 : textS s st ++ [(false, 0, hd), (true, 0, ByteArray.empty)] = textS s st ++ [(false, 0, hd)] ++ [(true, 0, ByteArray.empty)] := by simp
  rw [e0] at h ⊢
  obtain ⟨h1, h2⟩ := runO_app _ _ _ _ h
  obtain ⟨e1, e2, _⟩ := run_headed h1
  rw [h2, e1, e2] at h ⊢
  obtain ⟨f1, f2⟩ := runO_flush h
  exact ⟨f1, f2, h1⟩
theorem pre_right {ls : List ByteArray} {lp : List (Int × ByteArray)} {s : ByteArray} {st k : Nat} (hr : rightB ls lp = true) (h : (runO ls lp (preS s st k)).c = 0) : rightB ls (lp ++ preP s st k) = true := by
  have h1 := (runO_right _ ls lp hr h).1
  obtain ⟨e1, e2⟩ := runO_pre s st ls lp k h
  rw [e1, e2] at h1
  exact h1
theorem mid_len (ls : List ByteArray) (lp : List (Int × ByteArray)) (s : ByteArray) (st : Nat) : (midD ls lp s st).length = ls.length := length_flushD _ _
theorem end_len (ls : List ByteArray) (lp : List (Int × ByteArray)) (s : ByteArray) (st : Nat) (hd : ByteArray) : (endD ls lp s st hd).length = ls.length := (length_flushD _ _).trans (mid_len ls lp s st)
theorem end_read {ls : List ByteArray} {lp : List (Int × ByteArray)} {s : ByteArray} {st : Nat} {hd : ByteArray} (k : Nat) (hk : k < ls.length) : readD (endD ls lp s st hd) [] k = if k = 0 then hd else readD (midD ls lp s st) [] k := by
  unfold endD
  rw [read_flushed _ _ (by simp) k (by rw [mid_len]; exact hk)]
  have h := readD_snoc (midD ls lp s st) [] (0, hd) k
  rw [List.nil_append] at h
  rw [h]
  by_cases h0 : k = 0
  · rw [if_pos h0, if_pos (by simp [h0])]
  · rw [if_neg h0, if_neg (by simp; omega)]
theorem first_bd {ls : List ByteArray} {sd k : Nat} (hl : 1 ≤ ls.length) (hs : sd ≤ 1) (hk : k < halfN ls) : 1 ≤ firstN ls sd + k ∧ firstN ls sd + k < ls.length := by
  have e2 : 1 + halfN ls + halfN ls ≤ ls.length := by unfold halfN; omega
  unfold firstN
  rcases (show sd = 0 ∨ sd = 1 by omega) with rfl | rfl <;> omega
theorem first_len {a b : List ByteArray} {sd : Nat} (h : a.length = b.length) : firstN a sd = firstN b sd := by unfold firstN halfN; rw [h]
theorem textN_le {s : ByteArray} {h : Nat} (hz : s.size ≤ 64 * h) : textN s ≤ h := by unfold textN; omega
/-- All steps done: the new text is read. -/
theorem end_new {ls : List ByteArray} {lp : List (Int × ByteArray)} {s : ByteArray} {g : Int} {sd : Nat} (hr : rightB ls lp = true) (hr2 : rightB (endD ls lp s (firstN ls sd) (headB g sd s.size)) [] = true) (hg : 0 ≤ g) (hg2 : g ≤ 9223372036854775807) (hs : sd ≤ 1) (hz : s.size ≤ 64 * halfN ls) (hq : rightB ls (lp ++ preP s (firstN ls sd) (textN s)) = true) :
    readAO (endD ls lp s (firstN ls sd) (headB g sd s.size)) [] = ⟨endD ls lp s (firstN ls sd) (headB g sd s.size), [], s, g, 0⟩ ∧ seenO (endD ls lp s (firstN ls sd) (headB g sd s.size)) [] = (g, (sd : Int), (s.size : Int), 0) := by
  have hl1 := ((right_iff ls lp).1 hr).1
  have hlen := end_len ls lp s (firstN ls sd) (headB g sd s.size)
  have hh : halfN (endD ls lp s (firstN ls sd) (headB g sd s.size)) = halfN ls := by unfold halfN; rw [hlen]
  have hf : firstN (endD ls lp s (firstN ls sd) (headB g sd s.size)) sd = firstN ls sd := first_len hlen
  have ht := textN_le hz
  refine read_new hr2 hg hg2 hs (by rw [hh]; exact hz) ?_ (fun k hk => ?_)
  · rw [end_read 0 (by omega), if_pos rfl]
  · obtain ⟨b1, b2⟩ := first_bd (k := k) hl1 hs (by omega)
    rw [hf, end_read _ b2, if_neg (by omega)]
    unfold midD
    rw [read_flushed _ _ (flush_pos hq) _ b2]
    exact read_pre s _ ls lp _ k hk
/-- A text that is put with all steps is read again, of the next number. -/
theorem put_read {ls : List ByteArray} {lp : List (Int × ByteArray)} {s : ByteArray} {g : Int} {sd : Nat} (hr : rightB ls lp = true) (hg : 0 ≤ g) (hg2 : g ≤ 9223372036854775807) (hs : sd ≤ 1) (hz : s.size ≤ 64 * halfN ls) (h : (runO ls lp (allS s (firstN ls sd) g sd)).c = 0) :
    readAO (runO ls lp (allS s (firstN ls sd) g sd)).ls (runO ls lp (allS s (firstN ls sd) g sd)).lp = ⟨(runO ls lp (allS s (firstN ls sd) g sd)).ls, (runO ls lp (allS s (firstN ls sd) g sd)).lp, s, g, 0⟩ := by
  have hrr := (runO_right _ ls lp hr h).1
  unfold allS at h hrr ⊢
  obtain ⟨e1, e2, h1⟩ := run_all h
  obtain ⟨_, _, h2⟩ := run_headed h1
  obtain ⟨_, _, h3⟩ := run_text h2
  rw [e1, e2] at hrr ⊢
  exact (end_new hr hrr hg hg2 hs hz (pre_right hr h3)).1
/-- Writes to the other side alone: what is read is what there was. -/
theorem far_old {ls : List ByteArray} {q : List (Int × ByteArray)} {t : ByteArray} {g : Int} {s0 sd n : Nat} (hr : rightB ls [] = true) (hr2 : rightB (flushD ls q) [] = true) (hp : ∀ y ∈ q, ∃ i, i < halfN ls ∧ y.1 = ((firstN ls sd + i : Nat) : Int)) (hs : s0 ≤ 1) (hsd : sd = 1 - s0) (hsn : seenO ls [] = (g, (s0 : Int), (n : Int), 0)) (h : readAO ls [] = ⟨ls, [], t, g, 0⟩) : readAO (flushD ls q) [] = ⟨flushD ls q, [], t, g, 0⟩ := by
  have hl1 := ((right_iff ls []).1 hr).1
  have h0 : ∀ y ∈ q, 0 ≤ y.1 := fun y hy => by obtain ⟨i, _, e⟩ := hp y hy; omega
  have hfar : ∀ k, k < ls.length → (∀ i, i < halfN ls → firstN ls sd + i ≠ k) → readD ls [] k = readD (flushD ls q) [] k := fun k hk hne => by
    rw [read_flushed ls q h0 k hk, read_far ls q k hk (fun y hy e => by obtain ⟨i, hi, e2⟩ := hp y hy; exact hne i hi (by omega))]
  refine read_same hr hr2 (length_flushD ls q).symm (hfar 0 (by omega) (fun i hi => by have := (first_bd (sd := sd) (k := i) hl1 (by omega) hi).1; omega)) hsn (fun j hj => ?_) h
  obtain ⟨b1, b2⟩ := first_bd (sd := s0) (k := j) hl1 hs hj
  refine hfar _ b2 (fun i hi => ?_)
  unfold firstN
  rcases (show s0 = 0 ∨ s0 = 1 by omega) with rfl | rfl
  · rw [hsd]; omega
  · rw [hsd]; omega
theorem preP_far {ls : List ByteArray} {s : ByteArray} {st k : Nat} (hk : k ≤ halfN ls) : ∀ y ∈ preP s st k, ∃ i, i < halfN ls ∧ y.1 = ((st + i : Nat) : Int) := fun y hy => by
  unfold preP at hy
  obtain ⟨j, hj, rfl⟩ := List.mem_map.1 hy
  exact ⟨j, by have := List.mem_range.1 hj; omega, rfl⟩
theorem preS_take (s : ByteArray) (st k j : Nat) (h : j ≤ k) : (preS s st k).take j = preS s st j := by
  unfold preS
  rw [← List.map_take, List.take_range, Nat.min_eq_left h]
theorem kept_sub (lp : List (Int × ByteArray)) (kp : List Int) : ∀ y ∈ keptD lp kp, y ∈ lp := fun y hy => keptTo_mem lp kp lp.length y hy
theorem kept_one (y : Int × ByteArray) (kp : List Int) : keptD [y] kp = [] ∨ keptD [y] kp = [y] := by
  show keptTo [y] kp 1 = [] ∨ keptTo [y] kp 1 = [y]
  by_cases h : 0 < kp.length
  · by_cases h2 : 0 < kp[0]
    · right; rw [keptTo_yes [y] kp 0 (by simp) h h2]; rfl
    · left; rw [keptTo_low [y] kp 0 h h2]; rfl
  · left; rw [keptTo_out [y] kp 0 h]; rfl
/-- Wherever the power goes: what is read is what there was, or the new text; the new one, if all steps were done. -/
theorem torn_read {ls : List ByteArray} {s t : ByteArray} {g : Int} {s0 n : Nat} (kp : List Int) (j : Nat) (hkp : ¬ 400 < kp.length) (hr : rightB ls [] = true) (hg : 0 ≤ g) (hg2 : g < 1000000) (hs : s0 ≤ 1) (hz : s.size ≤ 64 * halfN ls) (hsn : seenO ls [] = (g, (s0 : Int), (n : Int), 0)) (hrd : readAO ls [] = ⟨ls, [], t, g, 0⟩)
    (h : (runO ls [] ((allS s (firstN ls (1 - s0)) (g + 1) ((1 - s0 : Nat) : Int)).take j)).c = 0) :
    let o := runO ls [] ((allS s (firstN ls (1 - s0)) (g + 1) ((1 - s0 : Nat) : Int)).take j)
    let w := crashO o.ls o.lp kp
    (readAO w.1 w.2 = ⟨w.1, w.2, t, g, 0⟩ ∧ j < textN s + 3) ∨ readAO w.1 w.2 = ⟨w.1, w.2, s, g + 1, 0⟩ := by
  intro o w
  have hro := (runO_right _ ls [] hr h).1
  have hT := textN_le hz
  have hl1 := ((right_iff ls []).1 hr).1
  obtain ⟨sd, hsd⟩ : ∃ sd, sd = 1 - s0 := ⟨_, rfl⟩
  have hsd1 : sd ≤ 1 := by omega
  have hw : w = (flushD o.ls (keptD o.lp kp), []) := crashO_ok hkp hro
  have hwr : rightB (flushD o.ls (keptD o.lp kp)) [] = true := flush_right hro (kept_sub _ _)
  rw [hw]
  change (readAO (flushD o.ls (keptD o.lp kp)) [] = ⟨flushD o.ls (keptD o.lp kp), [], t, g, 0⟩ ∧ j < textN s + 3) ∨ readAO (flushD o.ls (keptD o.lp kp)) [] = ⟨flushD o.ls (keptD o.lp kp), [], s, g + 1, 0⟩
  have ho : o = runO ls [] ((allS s (firstN ls (1 - s0)) (g + 1) ((1 - s0 : Nat) : Int)).take j) := rfl
  rw [← hsd] at ho h
  clear_value o
  clear hw w
  have hal : (allS s (firstN ls sd) (g + 1) (sd : Int)).length = textN s + 3 := allS_len _ _ _ _
  by_cases c1 : j ≤ textN s
  · have e : (allS s (firstN ls sd) (g + 1) (sd : Int)).take j = preS s (firstN ls sd) j := by
      unfold allS textS
      rw [List.append_assoc, List.take_append_of_le_length (by rw [preS_len]; exact c1), preS_take _ _ _ _ c1]
    rw [e] at ho h
    obtain ⟨e1, e2⟩ := runO_pre s (firstN ls sd) ls [] j h
    rw [← ho, List.nil_append] at e2
    rw [← ho] at e1
    rw [e1, e2] at hwr ⊢
    exact .inl ⟨far_old hr hwr (fun y hy => preP_far (by omega) y (kept_sub _ _ y hy)) hs hsd hsn hrd, by omega⟩
  by_cases c2 : j = textN s + 1
  · have e : (allS s (firstN ls sd) (g + 1) (sd : Int)).take j = textS s (firstN ls sd) := by
      unfold allS
      rw [c2, List.take_append_of_le_length (by rw [textS_len]; omega), List.take_of_length_le (by rw [textS_len]; omega)]
    rw [e] at ho h
    obtain ⟨e1, e2, _⟩ := run_text h
    rw [← ho] at e1 e2
    rw [e1, e2] at hwr ⊢
    rw [flush_none] at hwr ⊢
    exact .inl ⟨far_old hr hwr (fun y hy => preP_far hT y (by simpa using hy)) hs hsd hsn hrd, by omega⟩
  by_cases c3 : j = textN s + 2
  · have e : (allS s (firstN ls sd) (g + 1) (sd : Int)).take j = textS s (firstN ls sd) ++ [(false, 0, headB (g + 1) (sd : Int) s.size)] := by
      unfold allS
      rw [c3, List.take_append, List.take_of_length_le (by rw [textS_len]; omega), textS_len]
      simp
    rw [e] at ho h
    obtain ⟨e1, e2, h2⟩ := run_headed h
    obtain ⟨_, _, h3⟩ := run_text h2
    rw [← ho] at e1 e2
    rw [e1, e2] at hwr ⊢
    rcases kept_one (0, headB (g + 1) (sd : Int) s.size) kp with k1 | k1
    · rw [k1, flushD_nil] at hwr ⊢
      exact .inl ⟨far_old hr hwr (fun y hy => preP_far hT y (by simpa using hy)) hs hsd hsn hrd, by omega⟩
    · rw [k1] at hwr ⊢
      exact .inr (end_new hr hwr (by omega) (by omega) hsd1 hz (pre_right hr h3)).1
  · have e : (allS s (firstN ls sd) (g + 1) (sd : Int)).take j = allS s (firstN ls sd) (g + 1) (sd : Int) := List.take_of_length_le (by omega)
    rw [e] at ho h
    unfold allS at ho h
    obtain ⟨e1, e2, h1⟩ := run_all h
    obtain ⟨_, _, h2⟩ := run_headed h1
    obtain ⟨_, _, h3⟩ := run_text h2
    rw [← ho] at e1 e2
    rw [e1, e2] at hwr ⊢
    rw [flush_none] at hwr ⊢
    exact .inr (end_new hr hwr (by omega) (by omega) hsd1 hz (pre_right hr h3)).1
end Go.Proofs.YtkigmpeanllimaaGreatDoor.Disk

/- What lwDisks answers on what is alike. -/
namespace Go.Proofs.YtkigmpeanllimaaGreatDoor.Disk
open Go.RowKit Go.Proofs.YtkigmpeanllimaaGreatDoor.Mem Go.Proofs.YtkigmpeanllimaaGreatDoor.Harn

set_option maxHeartbeats 1000000 in
theorem lwTexts_any (v u : Value) (l : List ByteArray) (w : World) (h : Strs w v l) (h2 : Strs w u l) (hn : l.length ≤ 1100000) :
    Calls Tryz.prog 49 #[v, u] w fun e w' => e = .returned (.bool true) ∧ ∃ n, w' = w.drewN n := by
  obtain ⟨a, cap, rfl, hc⟩ := h
  obtain ⟨a2, cap2, rfl, hc2⟩ := h2
  have HC : Hid (∀ j (h : j < l.length), ∃ b o, a = some ⟨b, o, none⟩ ∧ w.cell? ⟨b, o + j, none⟩ = some (.string l[j])) := hc
  have HC2 : Hid (∀ j (h : j < l.length), ∃ b o, a2 = some ⟨b, o, none⟩ ∧ w.cell? ⟨b, o + j, none⟩ = some (.string l[j])) := hc2
  clear hc hc2
  go_enter Tryz.func49, Tryz.ntmps49
  go_wp2
  go_loopw [5] (fun i wr => ∃ k : Nat, k ≤ l.length ∧ i = .int .i64 k ∧ ∃ n, wr = w.drewN n) (fun i _ => l.length - (intOf i).toNat)
  case atStart => exact ⟨0, by omega, rfl, 0, rfl⟩
  case round =>
    obtain ⟨k, hk, rfl, n, rfl⟩ := hrel
    by_cases hlt : k < l.length
    · obtain ⟨b, o, rfl, c1⟩ := HC.out k hlt
      obtain ⟨b2, o2, rfl, c2⟩ := HC2.out k hlt
      have p1 : (k : Int) < (l.length : Int) := by omega
      generalize l[k] = t at *
      go_wp2_with fail
      go_quiet (fail)
      go_wp2
      go_roundw
      case rel => exact ⟨k + 1, by omega, by go_num, _, rfl⟩
      case measure => simp [intOf]; omega
    · have e : k = l.length := by omega
      subst e
      go_wp2
      go_ret
      exact ⟨rfl, n, rfl⟩

set_option maxRecDepth 100000 in
set_option maxHeartbeats 1000000 in
theorem lwDisk_any (vs vp us up : Value) (ls : List ByteArray) (lp : List (Int × ByteArray)) (w : World) (hs : Strs w vs ls) (hp : Pends w vp lp) (ks : Strs w us ls) (kp : Pends w up lp) (h1 : ls.length ≤ 1100000) (h2 : lp.length ≤ 1100000) :
    Calls Tryz.prog 18 #[.agg #[vs, vp], .agg #[us, up]] w fun e w' => e = .returned (.bool true) ∧ Below w.heap.size w w' := by
  obtain ⟨W0, hW0⟩ : ∃ W0, W0 = (w.alloc (Obj.cells #[vs, vp] 26)).alloc (Obj.cells #[us, up] 26) := ⟨_, rfl⟩
  have hB0 : Below w.heap.size w W0 := by rw [hW0]; exact ((Below.refl _ _).alloc (Nat.le_refl _) _).alloc (by simp) _
  have HB0 : Hid (Below w.heap.size w W0) := hB0
  have H2 : Hid (Strs W0 vs ls) := Strs.below hs hB0
  have H3 : Hid (Strs W0 us ls) := Strs.below ks hB0
  obtain ⟨a1, cap1, rfl, hc1⟩ := hp
  obtain ⟨a2, cap2, rfl, hc2⟩ := kp
  have HC1 : Hid (∀ j (h : j < lp.length), ∃ b o, a1 = some ⟨b, o, none⟩ ∧ w.cell? ⟨b, o + j * 2, none⟩ = some (.int .i64 lp[j].1) ∧ w.cell? ⟨b, o + j * 2 + 1, none⟩ = some (.string lp[j].2)) := hc1
  have HC2 : Hid (∀ j (h : j < lp.length), ∃ b o, a2 = some ⟨b, o, none⟩ ∧ w.cell? ⟨b, o + j * 2, none⟩ = some (.int .i64 lp[j].1) ∧ w.cell? ⟨b, o + j * 2 + 1, none⟩ = some (.string lp[j].2)) := hc2
  have r0 : HasRow W0 w.heap.size [vs, .slice a1 lp.length cap1] 26 := by rw [hW0]; exact Sha.row_alloc (Sha.row_new w [vs, .slice a1 lp.length cap1] 26) _
  have r1 : HasRow W0 (w.heap.size + 1) [us, .slice a2 lp.length cap2] 26 := by rw [hW0]; exact Sha.row_new_at (w.alloc _) [us, .slice a2 lp.length cap2] 26 _ (by simp)
  have m0 : W0.cell? ⟨w.heap.size, 0, none⟩ = some vs := Mem.cell_of_row r0 0
  have m1 : W0.cell? ⟨w.heap.size, 1, none⟩ = some (.slice a1 lp.length cap1) := Mem.cell_of_row r0 1
  have m2 : W0.cell? ⟨w.heap.size + 1, 0, none⟩ = some us := Mem.cell_of_row r1 0
  have m3 : W0.cell? ⟨w.heap.size + 1, 1, none⟩ = some (.slice a2 lp.length cap2) := Mem.cell_of_row r1 1
  clear hs ks hc1 hc2 hB0 r0 r1
  go_enter Tryz.func18, Tryz.ntmps18
  go_wp2_with (go_at_call 49; rw [← hW0]; refine (lwTexts_any _ _ ls _ H2.out H3.out h1).mono ?_; clear hW0; rintro e w1 ⟨rfl, n, rfl⟩)
  go_loopw [5] (fun i wr => ∃ k : Nat, k ≤ lp.length ∧ i = .int .i64 k ∧ ∃ n, wr = W0.drewN n) (fun i _ => lp.length - (intOf i).toNat)
  case atStart => exact ⟨0, by omega, rfl, n, rfl⟩
  case round =>
    obtain ⟨k, hk, rfl, q, rfl⟩ := hrel
    by_cases hlt : k < lp.length
    · obtain ⟨b, o, rfl, d1, d2⟩ := HC1.out k hlt
      obtain ⟨b2, o2, rfl, d3, d4⟩ := HC2.out k hlt
      have c1 : W0.cell? ⟨b, o + k * 2, none⟩ = _ := (HB0.out.cell (World.block_lt_of_cell? w _ d1)).trans d1
      have c2 : W0.cell? ⟨b, o + k * 2 + 1, none⟩ = _ := (HB0.out.cell (World.block_lt_of_cell? w _ d2)).trans d2
      have c3 : W0.cell? ⟨b2, o2 + k * 2, none⟩ = _ := (HB0.out.cell (World.block_lt_of_cell? w _ d3)).trans d3
      have c4 : W0.cell? ⟨b2, o2 + k * 2 + 1, none⟩ = _ := (HB0.out.cell (World.block_lt_of_cell? w _ d4)).trans d4
      have p1 : (k : Int) < (lp.length : Int) := by omega
      generalize lp[k].1 = x at *
      generalize lp[k].2 = t at *
      clear d1 d2 d3 d4
      go_wp2_with fail
      go_quiet (fail)
      go_wp2
      go_roundw
      case rel => exact ⟨k + 1, by omega, by go_num, _, rfl⟩
      case measure => simp [intOf]; omega
    · have e : k = lp.length := by omega
      subst e
      go_wp2
      go_ret
      exact ⟨rfl, Sha.bel_drewN HB0.out q⟩
end Go.Proofs.YtkigmpeanllimaaGreatDoor.Disk

namespace Go.Proofs.YtkigmpeanllimaaGreatDoor.Disk
open Go.RowKit Go.Proofs.YtkigmpeanllimaaGreatDoor.Mem Go.Proofs.YtkigmpeanllimaaGreatDoor.Harn

end Go.Proofs.YtkigmpeanllimaaGreatDoor.Disk

/- What lwArea answers on what is alike. -/
namespace Go.Proofs.YtkigmpeanllimaaGreatDoor.Disk
open Go.RowKit Go.Proofs.YtkigmpeanllimaaGreatDoor.Mem Go.Proofs.YtkigmpeanllimaaGreatDoor.Harn

set_option maxRecDepth 100000 in
set_option maxHeartbeats 1000000 in
theorem lwArea_any (vs vp us up : Value) (ls : List ByteArray) (lp : List (Int × ByteArray)) (t : ByteArray) (g c : Int) (w : World) (hs : Strs w vs ls) (hp : Pends w vp lp) (ks : Strs w us ls) (kp : Pends w up lp) (h1 : ls.length ≤ 1100000) (h2 : lp.length ≤ 1100000) :
    Calls Tryz.prog 11 #[outA vs vp t g c, outA us up t g c] w fun e w' => e = .returned (.bool true) ∧ Below w.heap.size w w' := by
  obtain ⟨W0, hW0⟩ : ∃ W0, W0 = (w.alloc (Obj.cells #[vs, vp, .string t, .int .i64 g, .int .i64 c] 31)).alloc (Obj.cells #[us, up, .string t, .int .i64 g, .int .i64 c] 31) := ⟨_, rfl⟩
  have hB0 : Below w.heap.size w W0 := by rw [hW0]; exact ((Below.refl _ _).alloc (Nat.le_refl _) _).alloc (by simp) _
  have HB0 : Hid (Below w.heap.size w W0) := hB0
  have K1 : Hid (∀ W, Below W0.heap.size W0 W → Calls Tryz.prog 18 #[.agg #[vs, vp], .agg #[us, up]] W fun e w' => e = .returned (.bool true) ∧ Below W.heap.size W w') := fun W hb => lwDisk_any vs vp us up ls lp W (Strs.below (Strs.below hs hB0) hb) (Pends.below (Pends.below hp hB0) hb) (Strs.below (Strs.below ks hB0) hb) (Pends.below (Pends.below kp hB0) hb) h1 h2
  clear hs hp ks kp hB0
  go_enter Tryz.func11, Tryz.ntmps11
  go_wp2_with (go_at_call 18; rw [← hW0]; refine (K1.out _ (by repeat' (first | with_reducible exact Below.refl _ _ | with_reducible apply bD | with_reducible apply bA))).mono ?_; clear hW0; rintro e w1 ⟨rfl, hb1⟩)
  go_ret
  exact ⟨rfl, bT HB0.out hb1⟩
end Go.Proofs.YtkigmpeanllimaaGreatDoor.Disk

/- Boxes that hold what a call on an area told. -/
namespace Go.Proofs.YtkigmpeanllimaaGreatDoor.Disk
open Go.RowKit Go.Proofs.YtkigmpeanllimaaGreatDoor.Mem Go.Proofs.YtkigmpeanllimaaGreatDoor.Harn Go.Proofs.YtkigmpeanllimaaGreatDoor.DiskP

/-- A box that holds what a call on an area told. -/
structure BoxE (W : World) (g : Nat) (va : Option Addr) (ca : Nat) (vb : Option Addr) (cb : Nat) (ls : List ByteArray) (lp : List (Int × ByteArray)) (t : ByteArray) (n c : Int) : Prop where
  b : BoxA W g (.slice va ls.length ca) (.slice vb lp.length cb) t n c
  s : Strs W (.slice va ls.length ca) ls
  p : Pends W (.slice vb lp.length cb) lp
  z : g < W.heap.size
theorem BoxE.below {W W' : World} {g : Nat} {va : Option Addr} {ca : Nat} {vb : Option Addr} {cb : Nat} {ls : List ByteArray} {lp : List (Int × ByteArray)} {t : ByteArray} {n c : Int} (h : BoxE W g va ca vb cb ls lp t n c) (hb : Below W.heap.size W W') : BoxE W' g va ca vb cb ls lp t n c :=
  ⟨h.b.below hb h.z, h.s.below hb, h.p.below hb, Nat.lt_of_lt_of_le h.z hb.size⟩
theorem boxE_new {w : World} {va : Option Addr} {ca : Nat} {vb : Option Addr} {cb : Nat} {ls : List ByteArray} {lp : List (Int × ByteArray)} (t : ByteArray) (n c : Int) (hs : Strs w (.slice va ls.length ca) ls) (hp : Pends w (.slice vb lp.length cb) lp) : BoxE (w.alloc (.cells #[.slice va ls.length ca, .slice vb lp.length cb, .string t, .int .i64 n, .int .i64 c] 31)) w.heap.size va ca vb cb ls lp t n c :=
  ⟨boxA_at w _ _ t n c, hs.below (bself _), hp.below (bself _), by simp⟩
theorem area_cells {V W : World} {g1 g2 g3 g4 g5 g6 : Nat} {dA fA rA xA yA zA dB fB rB xB yB zB : Option Addr} {da fa ra xa ya za db fb rb xb yb zb : Nat} {dl fl rl xl yl zl : List ByteArray} {dp fp rp xp yp zp : List (Int × ByteArray)} {xt yt zt : ByteArray} {xg yg zg xc yc zc : Int}
    (d : BoxD V g1 dA da dB db dl dp) (f : BoxD V g2 fA fa fB fb fl fp) (r : BoxD V g3 rA ra rB rb rl rp) (x : BoxE V g4 xA xa xB xb xl xp xt xg xc) (y : BoxE V g5 yA ya yB yb yl yp yt yg yc) (z : BoxE V g6 zA za zB zb zl zp zt zg zc) (hb : Below V.heap.size V W) :
    W.cell? ⟨g1, 0, none⟩ = some (.slice dA dl.length da) ∧ W.cell? ⟨g1, 1, none⟩ = some (.slice dB dp.length db) ∧
    W.cell? ⟨g2, 0, none⟩ = some (.slice fA fl.length fa) ∧ W.cell? ⟨g2, 1, none⟩ = some (.slice fB fp.length fb) ∧
    W.cell? ⟨g3, 0, none⟩ = some (.slice rA rl.length ra) ∧ W.cell? ⟨g3, 1, none⟩ = some (.slice rB rp.length rb) ∧
    W.cell? ⟨g4, 0, none⟩ = some (.slice xA xl.length xa) ∧ W.cell? ⟨g4, 1, none⟩ = some (.slice xB xp.length xb) ∧ W.cell? ⟨g4, 2, none⟩ = some (.string xt) ∧ W.cell? ⟨g4, 3, none⟩ = some (.int .i64 xg) ∧ W.cell? ⟨g4, 4, none⟩ = some (.int .i64 xc) ∧
    W.cell? ⟨g5, 0, none⟩ = some (.slice yA yl.length ya) ∧ W.cell? ⟨g5, 1, none⟩ = some (.slice yB yp.length yb) ∧ W.cell? ⟨g5, 2, none⟩ = some (.string yt) ∧ W.cell? ⟨g5, 3, none⟩ = some (.int .i64 yg) ∧ W.cell? ⟨g5, 4, none⟩ = some (.int .i64 yc) ∧
    W.cell? ⟨g6, 0, none⟩ = some (.slice zA zl.length za) ∧ W.cell? ⟨g6, 1, none⟩ = some (.slice zB zp.length zb) ∧ W.cell? ⟨g6, 2, none⟩ = some (.string zt) ∧ W.cell? ⟨g6, 3, none⟩ = some (.int .i64 zg) ∧ W.cell? ⟨g6, 4, none⟩ = some (.int .i64 zc) := by
  obtain ⟨a1, a2, _⟩ := (d.below hb).b.cells
  obtain ⟨b1, b2, _⟩ := (f.below hb).b.cells
  obtain ⟨c1, c2, _⟩ := (r.below hb).b.cells
  obtain ⟨d1, d2, d3, d4, d5⟩ := (x.below hb).b.cells
  obtain ⟨e1, e2, e3, e4, e5⟩ := (y.below hb).b.cells
  obtain ⟨f1, f2, f3, f4, f5⟩ := (z.below hb).b.cells
  exact ⟨a1, a2, b1, b2, c1, c2, d1, d2, d3, d4, d5, e1, e2, e3, e4, e5, f1, f2, f3, f4, f5⟩
end Go.Proofs.YtkigmpeanllimaaGreatDoor.Disk

/- The program's look at the numbers of a head, and whether they fit. -/
namespace Go.Proofs.YtkigmpeanllimaaGreatDoor.Disk
open Go.RowKit Go.Proofs.YtkigmpeanllimaaGreatDoor.Mem Go.Proofs.YtkigmpeanllimaaGreatDoor.Harn Go.Proofs.YtkigmpeanllimaaGreatDoor.DiskP

/-- The number that is told, 0 beside a code. -/
def nAt (s : ByteArray) (p : Nat) : Int := if (GetNum.rd s p).1 = 0 then GetNum.unfoldI (GetNum.rd s p).2.1 else 0
theorem nAt_bd (s : ByteArray) (p : Nat) : -9223372036854775808 ≤ nAt s p ∧ nAt s p ≤ 9223372036854775807 ∧ ((GetNum.rd s p).2.2 ≤ s.size) := by
  unfold nAt
  rcases GetNum.rd_cases s p with ⟨y, q, h, h1, h2⟩ | h | h <;> rw [h]
  · have := GetNum.unfold_bd h1
    exact ⟨this.1, this.2, h2⟩
  · exact ⟨by decide, by decide, by simp⟩
  · exact ⟨by decide, by decide, by simp⟩
theorem implNum_at (s : ByteArray) (m : Nat) (w : World) (hs : s.size ≤ 8000) (hm : m ≤ s.size) (hL : GetNum.Laid w) :
    Calls Tryz.prog 85 #[.string s, .int .i64 (m : Int)] w fun e w' => e = .returned (.agg #[.int .i64 (nAt s m), .int .i64 ((GetNum.rd s m).2.2 : Nat), .int .i64 ((GetNum.rd s m).1 : Nat)]) ∧ Below w.heap.size w w' := by
  have hs' : (s.size : Int) ≤ 8000 := by omega
  have h2 : (m : Int) ≤ 9223372036854775807 := by omega
  unfold nAt
  rcases GetNum.rd_cases s m with ⟨y, q, hr, hy, hq⟩ | hr | hr
  · rw [hr]
    refine GetNum.implGetNum_ok s m w y q hs' (by omega) (fun w => ?_)
    have := GetNum.readNum_in s m w hs' h2
    rwa [GetNum.readV_ok hr] at this
  all_goals
    have hne : (GetNum.rd s m).1 ≠ 0 := by rw [hr]; decide
    have := GetNum.implGetNum_code s m w (GetNum.rd s m).1 hs' hL (fun w => by have := GetNum.readNum_in s m w hs' h2; rwa [GetNum.readV_code hne] at this)
    rw [hr] at this ⊢
    exact this

/-- Where the numbers stand. -/
def posN (s : ByteArray) : Nat → Nat
  | 0 => 0
  | k + 1 => (GetNum.rd s (posN s k)).2.2
theorem posN_le (s : ByteArray) (k : Nat) : posN s k ≤ s.size := by
  cases k with
  | zero => exact Nat.zero_le _
  | succ k => exact (nAt_bd s (posN s k)).2.2
def codN (s : ByteArray) (k : Nat) : Nat := (GetNum.rd s (posN s k)).1
def numN (s : ByteArray) (k : Nat) : Int := nAt s (posN s k)
theorem headNum_none {s : ByteArray} {k : Nat} (hk : k < 3) (h : codN s k ≠ 0) : headNum s = none := by
  unfold headNum
  rw [if_neg]
  rintro ⟨h1, h2, h3, _⟩
  have hc : k = 0 ∨ k = 1 ∨ k = 2 := by omega
  rcases hc with rfl | rfl | rfl
  · exact h h1
  · exact h h2
  · exact h h3
theorem headNum_three {s : ByteArray} (h : ∀ j, j < 3 → codN s j = 0) : headNum s = if posN s 3 = s.size then some (numN s 0, numN s 1, numN s 2) else none := by
  have h0 : (GetNum.rd s 0).1 = 0 := h 0 (by omega)
  have h1 : (GetNum.rd s (GetNum.rd s 0).2.2).1 = 0 := h 1 (by omega)
  have h2 : (GetNum.rd s (GetNum.rd s (GetNum.rd s 0).2.2).2.2).1 = 0 := h 2 (by omega)
  have e0 : numN s 0 = GetNum.unfoldI (GetNum.rd s 0).2.1 := if_pos h0
  have e1 : numN s 1 = GetNum.unfoldI (GetNum.rd s (GetNum.rd s 0).2.2).2.1 := if_pos h1
  have e2 : numN s 2 = GetNum.unfoldI (GetNum.rd s (GetNum.rd s (GetNum.rd s 0).2.2).2.2).2.1 := if_pos h2
  rw [e0, e1, e2]
  have e3 : posN s 3 = (GetNum.rd s (GetNum.rd s (GetNum.rd s 0).2.2).2.2).2.2 := rfl
  rw [e3]
  unfold headNum
  by_cases hq : (GetNum.rd s (GetNum.rd s (GetNum.rd s 0).2.2).2.2).2.2 = s.size
  · rw [if_pos ⟨h0, h1, h2, hq⟩, if_pos hq]
  · rw [if_neg (fun x => hq x.2.2.2), if_neg hq]
/-- The array of the numbers, the first k laid. -/
def rowN (f : Nat → Int) (k : Nat) : List Value := [.int .i64 (if 0 < k then f 0 else 0), .int .i64 (if 1 < k then f 1 else 0), .int .i64 (if 2 < k then f 2 else 0)]
theorem rowN_set (f : Nat → Int) (k : Nat) (hk : k < 3) : (rowN f k).set k (.int .i64 (f k)) = rowN f (k + 1) := by
  have hc : k = 0 ∨ k = 1 ∨ k = 2 := by omega
  rcases hc with rfl | rfl | rfl <;> rfl
theorem rowN_cells {W : World} {g : Nat} {f : Nat → Int} {T : TypeId} (h : HasRow W g (rowN f 3) T) : W.cell? ⟨g, 0, none⟩ = some (.int .i64 (f 0)) ∧ W.cell? ⟨g, 1, none⟩ = some (.int .i64 (f 1)) ∧ W.cell? ⟨g, 2, none⟩ = some (.int .i64 (f 2)) := ⟨Mem.cell_of_row h 0, Mem.cell_of_row h 1, Mem.cell_of_row h 2⟩
abbrev headV (g s n : Int) : Value := .agg #[.int .i64 g, .int .i64 s, .int .i64 n]
def BoxH (W : World) (b : Nat) (g s n : Int) : Prop := HasRow W b [.int .i64 g, .int .i64 s, .int .i64 n] 49
theorem BoxH.cells {W : World} {b : Nat} {g s n : Int} (h : BoxH W b g s n) : W.cell? ⟨b, 0, none⟩ = some (.int .i64 g) ∧ W.cell? ⟨b, 1, none⟩ = some (.int .i64 s) ∧ W.cell? ⟨b, 2, none⟩ = some (.int .i64 n) ∧ (∀ o, W.frozen? ⟨b, o, none⟩ = false) := ⟨Mem.cell_of_row h 0, Mem.cell_of_row h 1, Mem.cell_of_row h 2, Mem.frozen_of_row h⟩
theorem BoxH.below {W W' : World} {b B : Nat} {g s n : Int} (h : BoxH W b g s n) (hb : Below B W W') (hg : b < B) : BoxH W' b g s n := Sha.row_below h hb hg

set_option maxRecDepth 100000 in
set_option maxHeartbeats 2000000 in
theorem headNumbers_any (t : ByteArray) (w : World) (ht : t.size ≤ 8000) (hL : GetNum.Laid w) :
    Calls Tryz.prog 73 #[.string t] w fun e w' => (∃ g s n b, e = .returned (.tuple #[headV g s n, .bool b]) ∧ (b = true → headNum t = some (g, s, n)) ∧ (b = false → headNum t = none)) ∧ Below w.heap.size w w' := by
  obtain ⟨W0, hW0⟩ : ∃ W0, W0 = (w.alloc (.cells #[.int .i64 0, .int .i64 0, .int .i64 0] 49)).alloc (.cells #[.int .i64 0, .int .i64 0, .int .i64 0] 118) := ⟨_, rfl⟩
  have HB0 : Hid (Below w.heap.size w W0) := by rw [hW0]; exact bA (bself _) _
  have HZ : Hid (W0.heap.size = w.heap.size + 2) := by rw [hW0]; simp [Hid]
  have HX : Hid (BoxH W0 w.heap.size 0 0 0) := by rw [hW0]; exact Sha.row_alloc (Sha.row_new w [.int .i64 0, .int .i64 0, .int .i64 0] 49) _
  have HY : Hid (HasRow W0 (w.heap.size + 1) (rowN (numN t) 0) 118) := by rw [hW0]; exact Sha.row_new_at (w.alloc _) [.int .i64 0, .int .i64 0, .int .i64 0] 118 _ (by simp)
  have KN : Hid (∀ k W, Below w.heap.size w W → Calls Tryz.prog 85 #[.string t, .int .i64 (posN t k : Nat)] W fun e w' => e = .returned (.agg #[.int .i64 (numN t k), .int .i64 (posN t (k + 1) : Nat), .int .i64 (codN t k : Nat)]) ∧ Below W.heap.size W w') := fun k W hb => implNum_at t (posN t k) W ht (posN_le t k) (GetNum.laid_below hL hb)
  have HE1 : Hid (∀ k, k < 3 → codN t k ≠ 0 → headNum t = none) := fun k hk h => headNum_none hk h
  have HE2 : Hid ((∀ j, j < 3 → codN t j = 0) → headNum t = if posN t 3 = t.size then some (numN t 0, numN t 1, numN t 2) else none) := headNum_three
  have HPL : Hid (∀ k, posN t k ≤ t.size) := posN_le t
  clear hL
  have hp0 : posN t 0 = 0 := rfl
  generalize posN t = ps at *
  generalize codN t = cs at *
  generalize numN t = ns at *
  generalize headNum t = hd at *
  go_enter Tryz.func73, Tryz.ntmps73
  go_wp2_with fail
  rw [← hW0]
  clear hW0
  have hz0 := HZ.out
  go_loopw [5, 8] (fun p i W => ∃ k : Nat, k ≤ 3 ∧ i = .int .i64 k ∧ p = .int .i64 (ps k : Nat) ∧ Hid (∀ j, j < k → cs j = 0) ∧ Hid (BoxH W w.heap.size 0 0 0) ∧ Hid (HasRow W (w.heap.size + 1) (rowN ns k) 118) ∧ Hid (Below w.heap.size w W) ∧ w.heap.size + 2 ≤ W.heap.size) (fun _ i _ => 3 - (intOf i).toNat)
  case atStart => exact ⟨0, by omega, rfl, by rw [hp0]; rfl, fun j hj => by omega, HX.out, HY.out, HB0.out, by omega⟩
  case round =>
    obtain ⟨k, hk, rfl, rfl, HC, HBX, HBY, HBB, hzr⟩ := hrel
    clear HX HY HB0
    by_cases hlt : k < 3
    · have hlt2 : (k : Int) < 3 := by omega
      have h3b : (3 : Int) - 0 = 3 := rfl
      go_wp2_with fail
      refine (KN.out k _ HBB.out).mono ?_
      rintro e u ⟨rfl, hb⟩
      have hzu := hb.size
      have HBX2 : Hid (BoxH u w.heap.size 0 0 0) := BoxH.below HBX.out hb (by omega)
      have HBY2 : Hid (HasRow u (w.heap.size + 1) (rowN ns k) 118) := Sha.row_below HBY.out hb (by omega)
      have HB2 : Hid (Below w.heap.size w u) := bT HBB.out hb
      have hPL := HPL.out (k + 1)
      clear HBX HBY HBB hb
      by_cases hc : cs k = 0
      · have hcb : ((cs k : Int) != 0) = false := by simp [hc]
        obtain ⟨W1, hW1⟩ : ∃ W1, W1 = u.alloc (.cells #[.int .i64 (ns k), .int .i64 (ps (k + 1) : Nat), .int .i64 (cs k : Nat)] 105) := ⟨_, rfl⟩
        have hzz : W1.heap.size = u.heap.size + 1 := by rw [hW1]; simp
        have HN1 : Hid (HasRow W1 u.heap.size [.int .i64 (ns k), .int .i64 (ps (k + 1) : Nat), .int .i64 (cs k : Nat)] 105) := by rw [hW1]; exact Sha.row_new u _ _
        have HBX3 : Hid (BoxH W1 w.heap.size 0 0 0) := by rw [hW1]; exact Sha.row_alloc HBX2.out _
        have HBY3 : Hid (HasRow W1 (w.heap.size + 1) (rowN ns k) 118) := by rw [hW1]; exact Sha.row_alloc HBY2.out _
        have HB3 : Hid (Below w.heap.size w W1) := by rw [hW1]; exact bA HB2.out _
        have n0 : W1.cell? ⟨u.heap.size, 0, none⟩ = some (.int .i64 (ns k)) := Mem.cell_of_row HN1.out 0
        have n1 : W1.cell? ⟨u.heap.size, 1, none⟩ = some (.int .i64 (ps (k + 1) : Nat)) := Mem.cell_of_row HN1.out 1
        have n2 : W1.cell? ⟨u.heap.size, 2, none⟩ = some (.int .i64 (cs k : Nat)) := Mem.cell_of_row HN1.out 2
        have yf : ∀ o, W1.frozen? ⟨w.heap.size + 1, o, none⟩ = false := Mem.frozen_of_row HBY3.out
        have yk : ∃ z, W1.cell? ⟨w.heap.size + 1, k, none⟩ = some z := by
          have hc3 : k = 0 ∨ k = 1 ∨ k = 2 := by omega
          rcases hc3 with rfl | rfl | rfl
          · exact ⟨_, Mem.cell_of_row HBY3.out 0⟩
          · exact ⟨_, Mem.cell_of_row HBY3.out 1⟩
          · exact ⟨_, Mem.cell_of_row HBY3.out 2⟩
        obtain ⟨z, yk⟩ := yk
        have HCK : Hid (cs k = 0) := hc
        clear hc
        go_wp2_with fail
        rw [← hW1]
        clear hW1
        have kQ : W1.cell? ⟨u.heap.size, 0, none⟩ = some (.int .i64 (ns k)) ∧ W1.cell? ⟨u.heap.size, 1, none⟩ = some (.int .i64 (ps (k + 1) : Nat)) := ⟨n0, n1⟩
        clear n0 n1
        go_region_held3 (fun W => W.cell? ⟨u.heap.size, 0, none⟩ = some (.int .i64 (ns k)) ∧ W.cell? ⟨u.heap.size, 1, none⟩ = some (.int .i64 (ps (k + 1) : Nat)))
          (first
            | (refine ⟨(World.cell?_setCell_other W1 _ _ _ (by intro e; injection e with e _ _; omega)).trans kQ.1, (World.cell?_setCell_other W1 _ _ _ (by intro e; injection e with e _ _; omega)).trans kQ.2⟩)
            | exact kQ)
          (fail)
        go_wp2_with fail
        go_roundw
        case rel =>
          refine ⟨k + 1, by omega, by go_num, rfl, fun j hj => ?_, ?_, ?_, ?_, by simp; omega⟩
          · by_cases h : j = k
            · rw [h]; exact HCK.out
            · exact HC.out j (by omega)
          · exact Sha.row_drewN (Sha.row_other HBX3.out _ _ (by simp)) 1
          · have := row_set HBY3.out k (.int .i64 (ns k))
            rw [rowN_set ns k hlt] at this
            exact Sha.row_drewN this 1
          · exact bD (HB3.out.setCell (p := ⟨w.heap.size + 1, k, none⟩) (by simp) _)
        case measure => simp [intOf]; omega
      · have hcb : ((cs k : Int) != 0) = true := by simp; omega
        obtain ⟨x0, x1, x2, xf⟩ := BoxH.cells HBX2.out
        have hq : w.heap.size < u.heap.size := by omega
        have HNN : Hid _ := HE1.out k hlt hc
        clear hc
        go_wp2_with fail
        refine bodyPost_ret (v := .tuple #[headV 0 0 0, .bool false]) (by simp [results, Tryz.results73, go_sem, x0, x1, x2, hq]) rfl ⟨⟨0, 0, 0, false, rfl, fun h => absurd h (by decide), fun _ => HNN.out⟩, ?_⟩
        exact bA (((HB2.out.setCell (p := ⟨w.heap.size, 0, none⟩) (Nat.le_refl _) _).setCell (p := ⟨w.heap.size, 1, none⟩) (Nat.le_refl _) _).setCell (p := ⟨w.heap.size, 2, none⟩) (Nat.le_refl _) _) _
    · have e : k = 3 := by omega
      subst e
      obtain ⟨x0, x1, x2, xf⟩ := BoxH.cells HBX.out
      obtain ⟨y0, y1, y2⟩ := rowN_cells HBY.out
      have hPL := HPL.out 3
      have HE : Hid _ := HE2.out HC.out
      have HBR : Hid (∀ (a b c : Value), Below w.heap.size w (((wr.setCell ⟨w.heap.size, 0, none⟩ a).setCell ⟨w.heap.size, 1, none⟩ b).setCell ⟨w.heap.size, 2, none⟩ c)) := fun a b c => ((HBB.out.setCell (p := ⟨w.heap.size, 0, none⟩) (Nat.le_refl _) _).setCell (p := ⟨w.heap.size, 1, none⟩) (Nat.le_refl _) _).setCell (p := ⟨w.heap.size, 2, none⟩) (Nat.le_refl _) _
      by_cases he : ps 3 = t.size
      · have he2 : decide ((ps 3 : Int) = (t.size : Int)) = true := by simp [he]
        go_wp2_with fail
        exact bodyPost_ret (v := .tuple #[headV (ns 0) (ns 1) (ns 2), .bool true]) (by simp [results, Tryz.results73, go_sem, x0, x1, x2]) rfl ⟨⟨ns 0, ns 1, ns 2, true, rfl, fun _ => by rw [HE.out, if_pos he], fun h => absurd h (by decide)⟩, HBR.out _ _ _⟩
      · have he3 : ¬ (ps 3 : Int) = (t.size : Int) := by omega
        have he2 : decide ((ps 3 : Int) = (t.size : Int)) = false := by simpa using he3
        go_wp2_with fail
        exact bodyPost_ret (v := .tuple #[headV (ns 0) (ns 1) (ns 2), .bool false]) (by simp [results, Tryz.results73, go_sem, x0, x1, x2, he3]) rfl ⟨⟨ns 0, ns 1, ns 2, false, rfl, fun h => absurd h (by decide), fun _ => by rw [HE.out, if_neg he]⟩, HBR.out _ _ _⟩
end Go.Proofs.YtkigmpeanllimaaGreatDoor.Disk
