/- Laws that the proof rests on, put together: The law on DiskNew. What the laws on the disk's functions lean on: boxes, and what is kept in them. The head of an area, as it is sealed: the program and the model. How much room a side of a disk has: the program and the model. What the promise on disks leans on: what the calls tell, and the boxes that its walk keeps. What the functions on an area tell, and the laws' functions on it. The steps by which a text comes to a disk: what they come to. What stands on an area: its head, and the text of a side. A read of a sector that is there; cells of lists. Where a side of an area begins; the lesser of two numbers: the model. The text of a side, sector by sector. -/
import Derived.Test.YtnfidmjplhmblaaGreatDoorTextsF
import Derived.Test.YtnfidmjplhmblaaGreatDoorImplRead
import Derived.Test.YtnfidmjplhmblaaGreatDoorTextsG
import Derived.Test.YtnfidmjplhmblaaGreatDoorPutNum
import Derived.Test.YtnfidmjplhmblaaGreatDoorTextsC
import Derived.Deep.RegionHeld3
import Derived.Test.YtnfidmjplhmblaaGreatDoorTextsA
import Derived.Laws.StructEq
import Derived.Test.YtnfidmjplhmblaaGreatDoorSpecRead
/- The law on DiskNew. -/
namespace Go.Proofs.YtnfidmjplhmblaaGreatDoor.Disk
open Go.RowKit Go.Proofs.YtnfidmjplhmblaaGreatDoor.Mem Go.Proofs.YtnfidmjplhmblaaGreatDoor.Harn Go.Proofs.YtnfidmjplhmblaaGreatDoor.DiskP Go.Proofs.YtnfidmjplhmblaaGreatDoor.Mark

theorem length_newD (n : Int) : (newD n).length ≤ 64 := by
  unfold newD
  split
  · simp; omega
  · simp
theorem Box2.only {p : Nat → Prop} {W W' : World} {g : Nat} {vs vp : Value} (h : Box2 W g vs vp) (hg : Only p W W') (hp : ¬ p g) : Box2 W' g vs vp := hg.row h hp
theorem box2_at (w : World) (vs vp : Value) : Box2 (w.alloc (.cells #[vs, vp] 29)) w.heap.size vs vp := Sha.row_new w [vs, vp] 29
theorem Box2.alloc {W : World} {g : Nat} {vs vp : Value} (h : Box2 W g vs vp) (o : Obj) : Box2 (W.alloc o) g vs vp := Sha.row_alloc h o

end Go.Proofs.YtnfidmjplhmblaaGreatDoor.Disk

/- What the laws on the disk's functions lean on: boxes, and what is kept in them. -/
namespace Go.Proofs.YtnfidmjplhmblaaGreatDoor.Disk
open Go.RowKit Go.Proofs.YtnfidmjplhmblaaGreatDoor.Mem Go.Proofs.YtnfidmjplhmblaaGreatDoor.Harn Go.Proofs.YtnfidmjplhmblaaGreatDoor.DiskP Go.Proofs.YtnfidmjplhmblaaGreatDoor.Mark

/-- A box that holds what was told. -/
def BoxO (W : World) (g : Nat) (vs vp : Value) (t : ByteArray) (c : Int) : Prop := HasRow W g [vs, vp, .string t, .int .i64 c] 49
theorem BoxO.cells {W : World} {g : Nat} {vs vp : Value} {t : ByteArray} {c : Int} (h : BoxO W g vs vp t c) : W.cell? ⟨g, 0, none⟩ = some vs ∧ W.cell? ⟨g, 1, none⟩ = some vp ∧ W.cell? ⟨g, 2, none⟩ = some (.string t) ∧ W.cell? ⟨g, 3, none⟩ = some (.int .i64 c) := ⟨Mem.cell_of_row h 0, Mem.cell_of_row h 1, Mem.cell_of_row h 2, Mem.cell_of_row h 3⟩
theorem BoxO.below {W W' : World} {g B : Nat} {vs vp : Value} {t : ByteArray} {c : Int} (h : BoxO W g vs vp t c) (hb : Below B W W') (hg : g < B) : BoxO W' g vs vp t c := Sha.row_below h hb hg
theorem BoxO.only {p : Nat → Prop} {W W' : World} {g : Nat} {vs vp : Value} {t : ByteArray} {c : Int} (h : BoxO W g vs vp t c) (hg : Only p W W') (hp : ¬ p g) : BoxO W' g vs vp t c := hg.row h hp
theorem BoxO.alloc {W : World} {g : Nat} {vs vp : Value} {t : ByteArray} {c : Int} (h : BoxO W g vs vp t c) (o : Obj) : BoxO (W.alloc o) g vs vp t c := Sha.row_alloc h o
theorem boxO_at (w : World) (vs vp : Value) (t : ByteArray) (c : Int) : BoxO (w.alloc (.cells #[vs, vp, .string t, .int .i64 c] 49)) w.heap.size vs vp t c := Sha.row_new w [vs, vp, .string t, .int .i64 c] 49
theorem Box25.only {p : Nat → Prop} {W W' : World} {g : Nat} {vs vp : Value} (h : Box25 W g vs vp) (hg : Only p W W') (hp : ¬ p g) : Box25 W' g vs vp := hg.row h hp
theorem Box25.alloc {W : World} {g : Nat} {vs vp : Value} (h : Box25 W g vs vp) (o : Obj) : Box25 (W.alloc o) g vs vp := Sha.row_alloc h o
theorem box25_at (w : World) (vs vp : Value) : Box25 (w.alloc (.cells #[vs, vp] 25)) w.heap.size vs vp := Sha.row_new w [vs, vp] 25
theorem bself {w : World} (o : Obj) : Below w.heap.size w (w.alloc o) := (Below.refl _ _).alloc (Nat.le_refl _) _

theorem readO_len {ls : List ByteArray} {lp : List (Int × ByteArray)} (x : Int) (h : Fits ls lp) : (readO ls lp x).ls.length ≤ 1100000 ∧ (readO ls lp x).lp.length ≤ 1100000 := by
  unfold readO
  split
  · split
    · exact ⟨h.n, h.m⟩
    · exact ⟨by simp [ill], by simp [ill]⟩
  · exact ⟨by simp [ill], by simp [ill]⟩
theorem flushO_len {ls : List ByteArray} {lp : List (Int × ByteArray)} (h : Fits ls lp) : (flushO ls lp).ls.length ≤ 1100000 ∧ (flushO ls lp).lp.length ≤ 1100000 := by
  unfold flushO
  split
  · exact ⟨by simp only [length_flushD]; exact h.n, by simp⟩
  · exact ⟨by simp [ill], by simp [ill]⟩
theorem writeO_len {ls : List ByteArray} {lp : List (Int × ByteArray)} (x : Int) (t : ByteArray) (h : Fits ls lp) : (writeO ls lp x t).ls.length ≤ 1100000 ∧ (writeO ls lp x t).lp.length ≤ 1100000 := by
  unfold writeO
  split
  · exact ⟨by simp [ill], by simp [ill]⟩
  · split
    · exact ⟨by simp [ill], by simp [ill]⟩
    · rename_i hr
      split
      · exact ⟨by simp [ill], by simp [ill]⟩
      · split
        · exact ⟨by simp [ill], by simp [ill]⟩
        · refine ⟨h.n, ?_⟩
          have hr2 : rightB ls lp = true := by cases e : rightB ls lp with | true => rfl | false => exact absurd (.inl e) hr
          have := ((right_iff ls lp).1 hr2).2.2.1
          simp; omega
end Go.Proofs.YtnfidmjplhmblaaGreatDoor.Disk

/- The head of an area, as it is sealed: the program and the model. -/
namespace Go.Proofs.YtnfidmjplhmblaaGreatDoor.Disk
open Go.RowKit Go.Proofs.YtnfidmjplhmblaaGreatDoor.Mem Go.Proofs.YtnfidmjplhmblaaGreatDoor.Harn Go.Proofs.YtnfidmjplhmblaaGreatDoor.DiskP

/-- The head of a number, a side and a size, sealed. -/
def headB (g s n : Int) : ByteArray := Seal.sealB (PutNum.numB g ++ PutNum.numB s ++ PutNum.numB n)
theorem numB_size (n : Int) : 1 ≤ (PutNum.numB n).size ∧ (PutNum.numB n).size ≤ 10 := by
  have h := PutNum.length_numL n
  have e : (PutNum.numB n).size = (PutNum.numL n).length := by show (PutNum.numL n).toArray.size = _; simp
  rw [e]; exact h
theorem headB_size (g s n : Int) : (headB g s n).size ≤ 34 := by
  have h1 := numB_size g
  have h2 := numB_size s
  have h3 := numB_size n
  have h4 := Four.size_fourB (Crc.crcOf 0 (PutNum.numB g ++ PutNum.numB s ++ PutNum.numB n))
  unfold headB Seal.sealB
  simp only [ByteArray.size_append] at *
  omega

set_option maxRecDepth 100000 in
set_option maxHeartbeats 1000000 in
theorem specHead_any (g s n : Int) (w : World) (hg1 : -9223372036854775808 ≤ g) (hg2 : g ≤ 9223372036854775807) (hs1 : -9223372036854775808 ≤ s) (hs2 : s ≤ 9223372036854775807) (hn1 : -9223372036854775808 ≤ n) (hn2 : n ≤ 9223372036854775807) :
    Calls Tryz.prog 24 #[.int .i64 g, .int .i64 s, .int .i64 n] w fun e w' => e = .returned (.string (headB g s n)) ∧ Below w.heap.size w w' := by
  have h1 := (numB_size g).2
  have h2 := (numB_size s).2
  have h3 := (numB_size n).2
  have KG : Hid (∀ W, Calls Tryz.prog 47 #[.int .i64 g] W fun e w' => e = .returned (.string (PutNum.numB g)) ∧ Below W.heap.size W w') := fun W => PutNum.specPutNum_any g W hg1 hg2
  have KS : Hid (∀ W, Calls Tryz.prog 47 #[.int .i64 s] W fun e w' => e = .returned (.string (PutNum.numB s)) ∧ Below W.heap.size W w') := fun W => PutNum.specPutNum_any s W hs1 hs2
  have KN : Hid (∀ W, Calls Tryz.prog 47 #[.int .i64 n] W fun e w' => e = .returned (.string (PutNum.numB n)) ∧ Below W.heap.size W w') := fun W => PutNum.specPutNum_any n W hn1 hn2
  have KH : Hid (∀ W, Calls Tryz.prog 46 #[.string (PutNum.numB g ++ PutNum.numB s ++ PutNum.numB n)] W fun e w' => e = .returned (.string (headB g s n)) ∧ Below W.heap.size W w') := fun W => Seal.specSeal_in _ W (by simp only [ByteArray.size_append]; omega)
  generalize headB g s n = hd at *
  generalize PutNum.numB g = ag at *
  generalize PutNum.numB s = as2 at *
  generalize PutNum.numB n = an at *
  go_enter Tryz.func24, Tryz.ntmps24
  go_wp2_with fail
  refine (KG.out _).mono ?_
  rintro e w1 ⟨rfl, hb1⟩
  go_wp2_with fail
  refine (KS.out _).mono ?_
  rintro e w2 ⟨rfl, hb2⟩
  go_wp2_with fail
  refine (KN.out _).mono ?_
  rintro e w3 ⟨rfl, hb3⟩
  go_wp2_with fail
  refine (KH.out _).mono ?_
  rintro e w4 ⟨rfl, hb4⟩
  go_wp2
  go_ret
  exact ⟨rfl, bT (bT (bT hb1 hb2) hb3) hb4⟩

set_option maxRecDepth 100000 in
set_option maxHeartbeats 2000000 in
theorem implSealed_any (g s n : Int) (w : World) (hg1 : -9223372036854775808 ≤ g) (hg2 : g ≤ 9223372036854775807) (hs1 : -9223372036854775808 ≤ s) (hs2 : s ≤ 9223372036854775807) (hn1 : -9223372036854775808 ≤ n) (hn2 : n ≤ 9223372036854775807) :
    Calls Tryz.prog 53 #[.agg #[.int .i64 g, .int .i64 s, .int .i64 n]] w fun e w' => e = .returned (.string (headB g s n)) ∧ Below w.heap.size w w' := by
  have h1 := (numB_size g).2
  have h2 := (numB_size s).2
  have h3 := (numB_size n).2
  obtain ⟨W0, hW0⟩ : ∃ W0, W0 = w.alloc (.cells #[.int .i64 g, .int .i64 s, .int .i64 n] 58) := ⟨_, rfl⟩
  have HB0 : Hid (Below w.heap.size w W0) := by rw [hW0]; exact bself _
  have HX : Hid (HasRow W0 w.heap.size [.int .i64 g, .int .i64 s, .int .i64 n] 58) := by rw [hW0]; exact Sha.row_new w [.int .i64 g, .int .i64 s, .int .i64 n] 58
  have HZ : Hid (w.heap.size < W0.heap.size) := by rw [hW0]; simp [Hid]
  have KC : Hid (∀ W, Below W0.heap.size W0 W → W.cell? ⟨w.heap.size, 0, none⟩ = some (.int .i64 g) ∧ W.cell? ⟨w.heap.size, 1, none⟩ = some (.int .i64 s) ∧ W.cell? ⟨w.heap.size, 2, none⟩ = some (.int .i64 n)) := fun W hb => by
    have h := Sha.row_below HX.out hb HZ.out
    exact ⟨Mem.cell_of_row h 0, Mem.cell_of_row h 1, Mem.cell_of_row h 2⟩
  have KG : Hid (∀ W, Calls Tryz.prog 70 #[.int .i64 g] W fun e w' => e = .returned (.string (PutNum.numB g)) ∧ Below W.heap.size W w') := fun W => PutNum.implPutNum_any g W hg1 hg2
  have KS : Hid (∀ W, Calls Tryz.prog 70 #[.int .i64 s] W fun e w' => e = .returned (.string (PutNum.numB s)) ∧ Below W.heap.size W w') := fun W => PutNum.implPutNum_any s W hs1 hs2
  have KN : Hid (∀ W, Calls Tryz.prog 70 #[.int .i64 n] W fun e w' => e = .returned (.string (PutNum.numB n)) ∧ Below W.heap.size W w') := fun W => PutNum.implPutNum_any n W hn1 hn2
  have KH : Hid (∀ W, Calls Tryz.prog 69 #[.string (PutNum.numB g ++ PutNum.numB s ++ PutNum.numB n)] W fun e w' => e = .returned (.string (headB g s n)) ∧ Below W.heap.size W w') := fun W => Seal.implSeal_in _ W (by simp only [ByteArray.size_append]; omega)
  generalize headB g s n = hd at *
  generalize PutNum.numB g = ag at *
  generalize PutNum.numB s = as2 at *
  generalize PutNum.numB n = an at *
  have q1 : ¬ 9223372036854775807 < ag.size + as2.size := by omega
  have q2 : ¬ 9223372036854775807 < ag.size + as2.size + an.size := by omega
  have kQ := KC.out W0 (Below.refl _ _)
  have NB : Hid (Below W0.heap.size W0 W0) := Below.refl _ _
  go_enter Tryz.func53, Tryz.ntmps53
  go_wp2_with fail
  rw [← hW0]
  clear hW0
  go_region_held3 (fun W => W.cell? ⟨w.heap.size, 0, none⟩ = some (.int .i64 g) ∧ W.cell? ⟨w.heap.size, 1, none⟩ = some (.int .i64 s) ∧ W.cell? ⟨w.heap.size, 2, none⟩ = some (.int .i64 n))
    (exact kQ)
    (first
      | (go_at_call_of 70 (Value.int .i64 g); refine (KG.out _).mono ?_; rintro e u ⟨rfl, hb⟩; have NB : Hid (Below W0.heap.size W0 u) := bT (by repeat' (first | exact NB.out | apply bD)) hb; clear kQ; have kQ := KC.out _ NB.out; clear hb)
      | (go_at_call_of 70 (Value.int .i64 s); refine (KS.out _).mono ?_; rintro e u ⟨rfl, hb⟩; have NB : Hid (Below W0.heap.size W0 u) := bT (by repeat' (first | exact NB.out | apply bD)) hb; clear kQ; have kQ := KC.out _ NB.out; clear hb)
      | (go_at_call_of 70 (Value.int .i64 n); refine (KN.out _).mono ?_; rintro e u ⟨rfl, hb⟩; have NB : Hid (Below W0.heap.size W0 u) := bT (by repeat' (first | exact NB.out | apply bD)) hb; clear kQ; have kQ := KC.out _ NB.out; clear hb)
      | (go_at_call 69; refine (KH.out _).mono ?_; rintro e u ⟨rfl, hb⟩; have NB : Hid (Below W0.heap.size W0 u) := bT (by repeat' (first | exact NB.out | apply bD)) hb; clear kQ; have kQ := KC.out _ NB.out; clear hb))
  go_wp2
  go_ret
  exact ⟨rfl, bT HB0.out (by repeat' (first | exact NB.out | apply bD))⟩
end Go.Proofs.YtnfidmjplhmblaaGreatDoor.Disk

/- How much room a side of a disk has: the program and the model. -/
namespace Go.Proofs.YtnfidmjplhmblaaGreatDoor.Disk
open Go.RowKit Go.Proofs.YtnfidmjplhmblaaGreatDoor.Mem Go.Proofs.YtnfidmjplhmblaaGreatDoor.Harn Go.Proofs.YtnfidmjplhmblaaGreatDoor.DiskP

/-- How many sectors a side has. -/
def halfN (ls : List ByteArray) : Nat := (ls.length - 1) / 2
/-- How many bytes a side has room for. -/
def roomN (ls : List ByteArray) (lp : List (Int × ByteArray)) : Nat := if rightB ls lp = true then 64 * halfN ls else 0

theorem quo2 (n : Nat) (h : 1 ≤ n) : ((n : Int) - 1).tdiv 2 = (((n - 1) / 2 : Nat) : Int) := by
  rw [Int.tdiv_eq_ediv_of_nonneg (by omega)]
  omega

set_option maxRecDepth 100000 in
set_option maxHeartbeats 1000000 in
theorem specHalf_any (vs vp : Value) (ls : List ByteArray) (w : World) (hs : Strs w vs ls) (h0 : 1 ≤ ls.length) (h1 : ls.length ≤ 1100000) :
    Calls Tryz.prog 19 #[.agg #[vs, vp]] w fun e w' => e = .returned (.int .i64 (halfN ls : Nat)) ∧ Below w.heap.size w w' := by
  obtain ⟨a, cap, rfl, _⟩ := hs
  have hq := quo2 ls.length h0
  have hh : halfN ls = (ls.length - 1) / 2 := rfl
  have HH : Hid (halfN ls = (ls.length - 1) / 2) := hh
  clear hh
  go_enter Tryz.func19, Tryz.ntmps19
  go_wp2
  go_ret
  exact ⟨by first | rfl | (rw [HH.out]; congr 2; omega), (Below.refl _ _).alloc (Nat.le_refl _) _⟩

set_option maxRecDepth 100000 in
set_option maxHeartbeats 1000000 in
theorem implSide_any (vs vp : Value) (ls : List ByteArray) (w : World) (hs : Strs w vs ls) (h0 : 1 ≤ ls.length) (h1 : ls.length ≤ 1100000) :
    Calls Tryz.prog 52 #[.agg #[vs, vp]] w fun e w' => e = .returned (.int .i64 (halfN ls : Nat)) ∧ Below w.heap.size w w' := by
  obtain ⟨a, cap, rfl, _⟩ := hs
  have hq := quo2 ls.length h0
  have hh : halfN ls = (ls.length - 1) / 2 := rfl
  have HH : Hid (halfN ls = (ls.length - 1) / 2) := hh
  clear hh
  go_enter Tryz.func52, Tryz.ntmps52
  go_wp2
  go_ret
  exact ⟨by first | rfl | (rw [HH.out]; congr 2; omega), (Below.refl _ _).alloc (Nat.le_refl _) _⟩

theorem roomN_no {ls : List ByteArray} {lp : List (Int × ByteArray)} (h : rightB ls lp = false) : roomN ls lp = 0 := by unfold roomN; rw [h]; rfl
theorem roomN_yes {ls : List ByteArray} {lp : List (Int × ByteArray)} (h : rightB ls lp = true) : roomN ls lp = 64 * halfN ls := by unfold roomN; rw [if_pos h]
theorem halfN_le {ls : List ByteArray} (h : ls.length ≤ 64) : halfN ls ≤ 31 := by unfold halfN; omega

set_option maxRecDepth 100000 in
set_option maxHeartbeats 1000000 in
theorem implRoom_any (vs vp : Value) (ls : List ByteArray) (lp : List (Int × ByteArray)) (w : World) (hs : Strs w vs ls) (hp : Pends w vp lp) (hf : Fits ls lp) :
    Calls Tryz.prog 50 #[.agg #[vs, vp]] w fun e w' => e = .returned (.int .i64 (roomN ls lp : Nat)) ∧ Below w.heap.size w w' := by
  obtain ⟨W0, hW0⟩ : ∃ W0, W0 = w.alloc (.cells #[vs, vp] 29) := ⟨_, rfl⟩
  have hB0 : Below w.heap.size w W0 := by rw [hW0]; exact bself _
  have HB0 : Hid (Below w.heap.size w W0) := hB0
  have HX : Hid (Box2 W0 w.heap.size vs vp) := by rw [hW0]; exact Sha.row_new w [vs, vp] 29
  have HZ : Hid (W0.heap.size = w.heap.size + 1) := by rw [hW0]; simp [Hid]
  have K1 : Hid (Calls Tryz.prog 63 #[.agg #[vs, vp]] W0 fun e w' => e = .returned (.bool (rightB ls lp)) ∧ Below W0.heap.size W0 w') := implRight_any vs vp ls lp W0 (hs.below hB0) (hp.below hB0) hf.n hf.m hf.t hf.y
  have HS : Hid (Strs W0 vs ls) := hs.below hB0
  clear hs hp hB0 hf
  cases hr : rightB ls lp
  · rw [roomN_no hr]
    rw [hr] at K1
    clear hr
    go_enter Tryz.func50, Tryz.ntmps50
    go_wp2_with (go_at_call 63; rw [← hW0]; clear hW0; refine K1.out.mono ?_; rintro e w1 ⟨rfl, hb1⟩; have HB1 : Hid _ := hb1; clear hb1)
    go_ret
    exact ⟨rfl, bT HB0.out HB1.out⟩
  · have hl := ((right_iff ls lp).1 hr).1
    have hl2 := ((right_iff ls lp).1 hr).2.1
    have h31 := halfN_le hl2
    rw [roomN_yes hr]
    rw [hr] at K1
    clear hr
    have K2 : Hid (∀ W, Below W0.heap.size W0 W → Calls Tryz.prog 52 #[.agg #[vs, vp]] W fun e w' => e = .returned (.int .i64 (halfN ls : Nat)) ∧ Below W.heap.size W w') := fun W hb => implSide_any vs vp ls W (HS.out.below hb) hl (by omega)
    generalize halfN ls = hn at *
    go_enter Tryz.func50, Tryz.ntmps50
    go_wp2_with (first | (go_at_call 63; rw [← hW0]; clear hW0; refine K1.out.mono ?_; rintro e w1 ⟨rfl, hb1⟩; obtain ⟨x0, x1, _⟩ := Box2.cells (Box2.below HX.out hb1 (by have := HZ.out; omega)); have HB1 : Hid _ := hb1; clear hb1) | (go_at_call 52; refine (K2.out _ HB1.out).mono ?_; rintro e w2 ⟨rfl, hb2⟩; have HB2 : Hid _ := hb2; clear hb2))
    go_ret
    exact ⟨by go_num, bT (bT HB0.out HB1.out) HB2.out⟩
end Go.Proofs.YtnfidmjplhmblaaGreatDoor.Disk

/- What the promise on disks leans on: what the calls tell, and the boxes that its walk keeps. -/
namespace Go.Proofs.YtnfidmjplhmblaaGreatDoor.DiskP

theorem beqB (t : ByteArray) : (t == t) = true := by rw [beq_toListBytes]; simp
theorem flush_none (ls : List ByteArray) (kp : List Int) : flushD ls (keptD [] kp) = ls := rfl
theorem read_flushed (ls : List ByteArray) (lp : List (Int × ByteArray)) (h0 : ∀ y ∈ lp, 0 ≤ y.1) (k : Nat) (hk : k < ls.length) : readD (flushD ls lp) [] k = readD ls lp k := by
  rw [readD_nil _ k (by rw [length_flushD]; exact hk), flushD_at ls lp h0 k hk]
/-- Is the text at place k the sector's, or one of the first j pending ones' there? -/
def someTo (s t : ByteArray) (k : Nat) (lp : List (Int × ByteArray)) (j : Nat) : Bool := (t == s) || (lp.take j).any (fun y => y.1 == (k : Int) && y.2 == t)
theorem someTo_start (s t : ByteArray) (k : Nat) (lp : List (Int × ByteArray)) : someTo s t k lp 0 = (t == s) := by simp [someTo]
theorem someTo_step (s t : ByteArray) (k : Nat) (lp : List (Int × ByteArray)) (j : Nat) (h : j < lp.length) : someTo s t k lp (j + 1) = (someTo s t k lp j || (lp[j].1 == (k : Int) && lp[j].2 == t)) := by
  unfold someTo
  rw [List.take_succ_eq_append_getElem h, List.any_append]
  simp [Bool.or_assoc]
theorem someTo_end (ls : List ByteArray) (lp : List (Int × ByteArray)) (kp : List Int) (k : Nat) (hk : k < ls.length) : someTo ls[k] (readD ls (keptD lp kp) k) k lp lp.length = true := by
  unfold someTo
  rw [List.take_length]
  cases e : lastOf (keptD lp kp) (k : Int) with
  | none => rw [readD_none e hk, beqB]; rfl
  | some y =>
    obtain ⟨h1, h2⟩ := lastOf_mem e
    rw [readD_some e]
    have : lp.any (fun z => z.1 == (k : Int) && z.2 == y.2) = true := List.any_eq_true.2 ⟨y, keptTo_mem lp kp lp.length y h1, by simp [h2, beqB]⟩
    rw [this]
    simp
end Go.Proofs.YtnfidmjplhmblaaGreatDoor.DiskP

namespace Go.Proofs.YtnfidmjplhmblaaGreatDoor.Disk
open Go.RowKit Go.Proofs.YtnfidmjplhmblaaGreatDoor.Mem Go.Proofs.YtnfidmjplhmblaaGreatDoor.Harn Go.Proofs.YtnfidmjplhmblaaGreatDoor.DiskP

theorem fits_right {ls : List ByteArray} {lp : List (Int × ByteArray)} (h : rightB ls lp = true) : Fits ls lp := by
  obtain ⟨h1, h2, h3, h4, h5⟩ := (right_iff ls lp).1 h
  refine ⟨by omega, by omega, fun t ht => ?_, fun y hy => ?_, fun t ht => ?_, fun y hy => ?_⟩
  · have := h4 t ht; unfold maxLen; omega
  · obtain ⟨a, b, c⟩ := h5 y hy; unfold maxLen; omega
  · have := h4 t ht; omega
  · obtain ⟨a, b, c⟩ := h5 y hy; omega
theorem fits_nil : Fits [] [] := ⟨by simp, by simp, by simp, by simp, by simp, by simp⟩
theorem fits_new (n : Int) : Fits (newD n) [] := by
  unfold newD
  split
  · rename_i h
    refine ⟨by simp; omega, by simp, fun t ht => ?_, by simp, fun t ht => ?_, by simp⟩
    · rw [List.eq_of_mem_replicate ht]; unfold maxLen; simp
    · rw [List.eq_of_mem_replicate ht]; simp
  · exact fits_nil
/-- What a write told, as the promise wants it. -/
structure WroteR (ls : List ByteArray) (lp : List (Int × ByteArray)) (x : Int) (t : ByteArray) (o : Out) : Prop where
  f : Fits o.ls o.lp
  r : o.c = 0 → rightB o.ls o.lp = true
  l : o.c = 0 → o.ls = ls ∧ o.lp = lp ++ [(x, t)]
  d : o.c = 0 → rightB ls lp = true
theorem wrote_ill (ls : List ByteArray) (lp : List (Int × ByteArray)) (x : Int) (t : ByteArray) {c : Int} (h : c ≠ 0) : WroteR ls lp x t (ill c) := ⟨fits_nil, fun e => absurd e h, fun e => absurd e h, fun e => absurd e h⟩
theorem writeO_wrote (ls : List ByteArray) (lp : List (Int × ByteArray)) (x : Int) (t : ByteArray) : WroteR ls lp x t (writeO ls lp x t) := by
  unfold writeO
  split
  · exact wrote_ill _ _ _ _ (by decide)
  · split
    · exact wrote_ill _ _ _ _ (by decide)
    · rename_i h8 hr
      split
      · exact wrote_ill _ _ _ _ (by decide)
      · rename_i hx
        split
        · exact wrote_ill _ _ _ _ (by decide)
        · rename_i h2
          have hr2 : rightB ls lp = true := by cases e : rightB ls lp with | true => rfl | false => exact absurd (.inl e) hr
          have ht : t.size ≤ 64 := by
            rcases Nat.lt_or_ge 64 t.size with h | h
            · exact absurd (.inr h) hr
            · exact h
          have hq : rightB ls (lp ++ [(x, t)]) = true := by
            rw [right_iff] at hr2 ⊢
            obtain ⟨a1, a2, a3, a4, a5⟩ := hr2
            refine ⟨a1, a2, by simp; omega, a4, fun y hy => ?_⟩
            rcases List.mem_append.1 hy with h | h
            · exact a5 y h
            · rw [List.mem_singleton.1 h]; exact ⟨by simp only; omega, by simp only; omega, ht⟩
          exact ⟨fits_right hq, fun _ => hq, fun _ => ⟨rfl, rfl⟩, fun _ => hr2⟩
theorem flush_right {ls : List ByteArray} {lq lp : List (Int × ByteArray)} (h : rightB ls lp = true) (hs : ∀ y ∈ lq, y ∈ lp) : rightB (flushD ls lq) [] = true := by
  rw [right_iff] at h ⊢
  obtain ⟨a1, a2, a3, a4, a5⟩ := h
  refine ⟨by rw [length_flushD]; exact a1, by rw [length_flushD]; exact a2, by simp, ?_, by simp⟩
  have key : ∀ lq : List (Int × ByteArray), (∀ y ∈ lq, y ∈ lp) → ∀ t ∈ flushD ls lq, t.size ≤ 64 := by
    refine snoc_ind (fun _ => a4) (fun l z ih h t ht => ?_)
    rw [flushD_snoc] at ht
    rcases List.mem_or_eq_of_mem_set ht with h1 | h1
    · exact ih (fun y hy => h y (by simp [hy])) t h1
    · rw [h1]; exact (a5 z (h z (by simp))).2.2
  exact key lq hs
/-- What a flush told. -/
structure FlushedR (ls : List ByteArray) (lp : List (Int × ByteArray)) (o : Out) : Prop where
  f : Fits o.ls o.lp
  r : o.c = 0 → rightB o.ls o.lp = true
  l : o.c = 0 → o.ls = flushD ls lp ∧ o.lp = []
  d : o.c = 0 → rightB ls lp = true
theorem flushO_flushed (ls : List ByteArray) (lp : List (Int × ByteArray)) : FlushedR ls lp (flushO ls lp) := by
  unfold flushO
  split
  · rename_i h
    have hq := flush_right h (lq := lp) (fun _ h => h)
    exact ⟨fits_right hq, fun _ => hq, fun _ => ⟨rfl, rfl⟩, fun _ => h⟩
  · exact ⟨fits_nil, fun e => absurd e (by decide), fun e => absurd e (by decide), fun e => absurd e (by decide)⟩
theorem crashO_fits {ls : List ByteArray} {lp : List (Int × ByteArray)} (kp : List Int) (h : Fits ls lp) : Fits (crashO ls lp kp).1 (crashO ls lp kp).2 := by
  unfold crashO
  split
  · exact fits_nil
  · split
    · rename_i h1 h2
      exact fits_right (flush_right h2 (fun y hy => keptTo_mem lp kp _ y hy))
    · exact h
/-- What a read told. -/
theorem readO_read {ls : List ByteArray} {lp : List (Int × ByteArray)} (x : Int) (h : Fits ls lp) : Fits (readO ls lp x).ls (readO ls lp x).lp ∧ ((readO ls lp x).c = 0 → rightB (readO ls lp x).ls (readO ls lp x).lp = true) := by
  unfold readO
  split
  · rename_i h1
    split
    · exact ⟨h, fun _ => h1⟩
    · exact ⟨fits_nil, fun e => absurd e (by decide)⟩
  · exact ⟨fits_nil, fun e => absurd e (by decide)⟩

/-- A box that holds a disk, and the disk. -/
structure BoxD (W : World) (g : Nat) (va : Option Addr) (ca : Nat) (vb : Option Addr) (cb : Nat) (ls : List ByteArray) (lp : List (Int × ByteArray)) : Prop where
  b : Box2 W g (.slice va ls.length ca) (.slice vb lp.length cb)
  s : Strs W (.slice va ls.length ca) ls
  p : Pends W (.slice vb lp.length cb) lp
  z : g < W.heap.size
theorem BoxD.below {W W' : World} {g : Nat} {va : Option Addr} {ca : Nat} {vb : Option Addr} {cb : Nat} {ls : List ByteArray} {lp : List (Int × ByteArray)} (h : BoxD W g va ca vb cb ls lp) (hb : Below W.heap.size W W') : BoxD W' g va ca vb cb ls lp :=
  ⟨h.b.below hb h.z, h.s.below hb, h.p.below hb, Nat.lt_of_lt_of_le h.z hb.size⟩
theorem boxD_new {w : World} {va : Option Addr} {ca : Nat} {vb : Option Addr} {cb : Nat} {ls : List ByteArray} {lp : List (Int × ByteArray)} (hs : Strs w (.slice va ls.length ca) ls) (hp : Pends w (.slice vb lp.length cb) lp) : BoxD (w.alloc (.cells #[.slice va ls.length ca, .slice vb lp.length cb] 29)) w.heap.size va ca vb cb ls lp :=
  ⟨Sha.row_new w [.slice va ls.length ca, .slice vb lp.length cb] 29, hs.below (bself _), hp.below (bself _), by simp⟩
/-- A box that holds what a call told. -/
structure BoxT (W : World) (g : Nat) (va : Option Addr) (ca : Nat) (vb : Option Addr) (cb : Nat) (ls : List ByteArray) (lp : List (Int × ByteArray)) (t : ByteArray) (c : Int) : Prop where
  b : BoxO W g (.slice va ls.length ca) (.slice vb lp.length cb) t c
  s : Strs W (.slice va ls.length ca) ls
  p : Pends W (.slice vb lp.length cb) lp
  z : g < W.heap.size
theorem BoxT.below {W W' : World} {g : Nat} {va : Option Addr} {ca : Nat} {vb : Option Addr} {cb : Nat} {ls : List ByteArray} {lp : List (Int × ByteArray)} {t : ByteArray} {c : Int} (h : BoxT W g va ca vb cb ls lp t c) (hb : Below W.heap.size W W') : BoxT W' g va ca vb cb ls lp t c :=
  ⟨h.b.below hb h.z, h.s.below hb, h.p.below hb, Nat.lt_of_lt_of_le h.z hb.size⟩
theorem boxT_new {w : World} {va : Option Addr} {ca : Nat} {vb : Option Addr} {cb : Nat} {ls : List ByteArray} {lp : List (Int × ByteArray)} (t : ByteArray) (c : Int) (hs : Strs w (.slice va ls.length ca) ls) (hp : Pends w (.slice vb lp.length cb) lp) : BoxT (w.alloc (.cells #[.slice va ls.length ca, .slice vb lp.length cb, .string t, .int .i64 c] 49)) w.heap.size va ca vb cb ls lp t c :=
  ⟨boxO_at w _ _ t c, hs.below (bself _), hp.below (bself _), by simp⟩
/-- All that the walk keeps, in one world. -/
structure Six (w V : World) (g5 g8 g9 g11 g12 g14 : Nat) (dA xA eA cA fA gA dB xB eB cB fB gB : Option Addr) (da xa ea ca fa ga db xb eb cb fb gb : Nat) (dl xl el cl fl gl : List ByteArray) (dp xp ep cp fp gp : List (Int × ByteArray)) (xt ft : ByteArray) (xc fc : Int) (vk : Value) (kp : List Int) : Prop where
  B : Below w.heap.size w V
  d : BoxD V g5 dA da dB db dl dp
  x : BoxT V g8 xA xa xB xb xl xp xt xc
  e : BoxD V g9 eA ea eB eb el ep
  c : BoxD V g11 cA ca cB cb cl cp
  f : BoxT V g12 fA fa fB fb fl fp ft fc
  g : BoxD V g14 gA ga gB gb gl gp
  k : Ints V vk kp
theorem six_mk {w V : World} {g5 g8 g9 g11 g12 g14 : Nat} {dA xA eA cA fA gA dB xB eB cB fB gB : Option Addr} {da xa ea ca fa ga db xb eb cb fb gb : Nat} {dl xl el cl fl gl : List ByteArray} {dp xp ep cp fp gp : List (Int × ByteArray)} {xt ft : ByteArray} {xc fc : Int} {vk : Value} {kp : List Int}
    (B : Below w.heap.size w V) (d : BoxD V g5 dA da dB db dl dp) (x : BoxT V g8 xA xa xB xb xl xp xt xc) (e : BoxD V g9 eA ea eB eb el ep) (c : BoxD V g11 cA ca cB cb cl cp) (f : BoxT V g12 fA fa fB fb fl fp ft fc) (g : BoxD V g14 gA ga gB gb gl gp) (k : Ints V vk kp) :
    Six w V g5 g8 g9 g11 g12 g14 dA xA eA cA fA gA dB xB eB cB fB gB da xa ea ca fa ga db xb eb cb fb gb dl xl el cl fl gl dp xp ep cp fp gp xt ft xc fc vk kp := ⟨B, d, x, e, c, f, g, k⟩
theorem Six.below {w V W : World} {g5 g8 g9 g11 g12 g14 : Nat} {dA xA eA cA fA gA dB xB eB cB fB gB : Option Addr} {da xa ea ca fa ga db xb eb cb fb gb : Nat} {dl xl el cl fl gl : List ByteArray} {dp xp ep cp fp gp : List (Int × ByteArray)} {xt ft : ByteArray} {xc fc : Int} {vk : Value} {kp : List Int}
    (h : Six w V g5 g8 g9 g11 g12 g14 dA xA eA cA fA gA dB xB eB cB fB gB da xa ea ca fa ga db xb eb cb fb gb dl xl el cl fl gl dp xp ep cp fp gp xt ft xc fc vk kp) (hb : Below V.heap.size V W) :
    Six w W g5 g8 g9 g11 g12 g14 dA xA eA cA fA gA dB xB eB cB fB gB da xa ea ca fa ga db xb eb cb fb gb dl xl el cl fl gl dp xp ep cp fp gp xt ft xc fc vk kp := ⟨bT h.B hb, h.d.below hb, h.x.below hb, h.e.below hb, h.c.below hb, h.f.below hb, h.g.below hb, h.k.below hb⟩
theorem six_cells {w V W : World} {g5 g8 g9 g11 g12 g14 : Nat} {dA xA eA cA fA gA dB xB eB cB fB gB : Option Addr} {da xa ea ca fa ga db xb eb cb fb gb : Nat} {dl xl el cl fl gl : List ByteArray} {dp xp ep cp fp gp : List (Int × ByteArray)} {xt ft : ByteArray} {xc fc : Int} {vk : Value} {kp : List Int}
    (h : Six w V g5 g8 g9 g11 g12 g14 dA xA eA cA fA gA dB xB eB cB fB gB da xa ea ca fa ga db xb eb cb fb gb dl xl el cl fl gl dp xp ep cp fp gp xt ft xc fc vk kp) (hb : Below V.heap.size V W) :
    W.cell? ⟨g5, 0, none⟩ = some (.slice dA dl.length da) ∧ W.cell? ⟨g5, 1, none⟩ = some (.slice dB dp.length db) ∧
    W.cell? ⟨g8, 0, none⟩ = some (.slice xA xl.length xa) ∧ W.cell? ⟨g8, 1, none⟩ = some (.slice xB xp.length xb) ∧ W.cell? ⟨g8, 2, none⟩ = some (.string xt) ∧ W.cell? ⟨g8, 3, none⟩ = some (.int .i64 xc) ∧
    W.cell? ⟨g9, 0, none⟩ = some (.slice eA el.length ea) ∧ W.cell? ⟨g9, 1, none⟩ = some (.slice eB ep.length eb) ∧
    W.cell? ⟨g11, 0, none⟩ = some (.slice cA cl.length ca) ∧ W.cell? ⟨g11, 1, none⟩ = some (.slice cB cp.length cb) ∧
    W.cell? ⟨g12, 0, none⟩ = some (.slice fA fl.length fa) ∧ W.cell? ⟨g12, 1, none⟩ = some (.slice fB fp.length fb) ∧ W.cell? ⟨g12, 2, none⟩ = some (.string ft) ∧ W.cell? ⟨g12, 3, none⟩ = some (.int .i64 fc) ∧
    W.cell? ⟨g14, 0, none⟩ = some (.slice gA gl.length ga) ∧ W.cell? ⟨g14, 1, none⟩ = some (.slice gB gp.length gb) := by
  have h := h.below hb
  obtain ⟨a1, a2, _⟩ := h.d.b.cells
  obtain ⟨b1, b2, b3, b4⟩ := h.x.b.cells
  obtain ⟨c1, c2, _⟩ := h.e.b.cells
  obtain ⟨d1, d2, _⟩ := h.c.b.cells
  obtain ⟨e1, e2, e3, e4⟩ := h.f.b.cells
  obtain ⟨f1, f2, _⟩ := h.g.b.cells
  exact ⟨a1, a2, b1, b2, b3, b4, c1, c2, d1, d2, e1, e2, e3, e4, f1, f2⟩
end Go.Proofs.YtnfidmjplhmblaaGreatDoor.Disk

/- What the functions on an area tell, and the laws' functions on it. -/
namespace Go.Proofs.YtnfidmjplhmblaaGreatDoor.Disk
open Go.RowKit Go.Proofs.YtnfidmjplhmblaaGreatDoor.Mem Go.Proofs.YtnfidmjplhmblaaGreatDoor.Harn Go.Proofs.YtnfidmjplhmblaaGreatDoor.DiskP Go.Proofs.YtnfidmjplhmblaaGreatDoor.Mark

structure AOut where
  ls : List ByteArray
  lp : List (Int × ByteArray)
  t : ByteArray
  g : Int
  c : Int
def illA (c : Int) : AOut := ⟨[], [], ByteArray.empty, 0, c⟩
/-- What is told, as a value. -/
abbrev outA (vs vp : Value) (t : ByteArray) (g c : Int) : Value := .agg #[vs, vp, .string t, .int .i64 g, .int .i64 c]
/-- A call told o: in memory of its own; nothing old has turned. -/
def ToldA (w : World) (o : AOut) (e : Ending) (w' : World) : Prop := ∃ us up, e = .returned (outA us up o.t o.g o.c) ∧ Own w' w.heap.size w'.heap.size us up o.ls o.lp ∧ Below w.heap.size w w'
def BoxA (W : World) (g : Nat) (vs vp : Value) (t : ByteArray) (gn c : Int) : Prop := HasRow W g [vs, vp, .string t, .int .i64 gn, .int .i64 c] 31
theorem BoxA.cells {W : World} {g : Nat} {vs vp : Value} {t : ByteArray} {gn c : Int} (h : BoxA W g vs vp t gn c) : W.cell? ⟨g, 0, none⟩ = some vs ∧ W.cell? ⟨g, 1, none⟩ = some vp ∧ W.cell? ⟨g, 2, none⟩ = some (.string t) ∧ W.cell? ⟨g, 3, none⟩ = some (.int .i64 gn) ∧ W.cell? ⟨g, 4, none⟩ = some (.int .i64 c) := ⟨Mem.cell_of_row h 0, Mem.cell_of_row h 1, Mem.cell_of_row h 2, Mem.cell_of_row h 3, Mem.cell_of_row h 4⟩
theorem BoxA.frozen {W : World} {g : Nat} {vs vp : Value} {t : ByteArray} {gn c : Int} (h : BoxA W g vs vp t gn c) : ∀ o, W.frozen? ⟨g, o, none⟩ = false := Mem.frozen_of_row h
theorem BoxA.below {W W' : World} {g B : Nat} {vs vp : Value} {t : ByteArray} {gn c : Int} (h : BoxA W g vs vp t gn c) (hb : Below B W W') (hg : g < B) : BoxA W' g vs vp t gn c := Sha.row_below h hb hg
theorem BoxA.only {p : Nat → Prop} {W W' : World} {g : Nat} {vs vp : Value} {t : ByteArray} {gn c : Int} (h : BoxA W g vs vp t gn c) (hg : Only p W W') (hp : ¬ p g) : BoxA W' g vs vp t gn c := hg.row h hp
theorem BoxA.alloc {W : World} {g : Nat} {vs vp : Value} {t : ByteArray} {gn c : Int} (h : BoxA W g vs vp t gn c) (o : Obj) : BoxA (W.alloc o) g vs vp t gn c := Sha.row_alloc h o
theorem boxA_at (w : World) (vs vp : Value) (t : ByteArray) (gn c : Int) : BoxA (w.alloc (.cells #[vs, vp, .string t, .int .i64 gn, .int .i64 c] 31)) w.heap.size vs vp t gn c := Sha.row_new w [vs, vp, .string t, .int .i64 gn, .int .i64 c] 31

set_option maxHeartbeats 1000000 in
theorem eqAreaOut_any (vs vp us up : Value) (ls : List ByteArray) (lp : List (Int × ByteArray)) (t : ByteArray) (gn c : Int) (w : World) (hs : Strs w vs ls) (hp : Pends w vp lp) (ks : Strs w us ls) (kp : Pends w up lp) (h1 : ls.length ≤ 1100000) (h2 : lp.length ≤ 1100000) :
    Calls Tryz.prog 8 #[outA vs vp t gn c, outA us up t gn c] w fun e w' => e = .returned (.bool true) ∧ Below w.heap.size w w' := by
  obtain ⟨W0, hW0⟩ : ∃ W0, W0 = (w.alloc (Obj.cells #[vs, vp, .string t, .int .i64 gn, .int .i64 c] 31)).alloc (Obj.cells #[us, up, .string t, .int .i64 gn, .int .i64 c] 31) := ⟨_, rfl⟩
  have hB0 : Below w.heap.size w W0 := by rw [hW0]; exact ((Below.refl _ _).alloc (Nat.le_refl _) _).alloc (by simp) _
  have H2 : Hid (Strs W0 vs ls) := Strs.below hs hB0
  have H3 : Hid (Strs W0 us ls) := Strs.below ks hB0
  have H4 : Hid (Pends W0 vp lp) := Pends.below hp hB0
  have H5 : Hid (Pends W0 up lp) := Pends.below kp hB0
  have HB0 : Hid (Below w.heap.size w W0) := hB0
  have HX : Hid (BoxA W0 w.heap.size vs vp t gn c) := by rw [hW0]; exact BoxA.alloc (boxA_at w vs vp t gn c) _
  have HY : Hid (BoxA W0 (w.heap.size + 1) us up t gn c) := by rw [hW0]; exact Sha.row_new_at (w.alloc _) [us, up, .string t, .int .i64 gn, .int .i64 c] 31 _ (by simp)
  have HZ : Hid (W0.heap.size = w.heap.size + 2) := by rw [hW0]; simp [Hid]
  clear hs hp ks kp hB0
  go_enter Tryz.func8, Tryz.ntmps8
  go_wp2_with (go_at_call 9; rw [← hW0]; clear hW0; refine (eqDisk_any _ _ _ _ ls lp _ H2.out H4.out H3.out H5.out h1 h2).mono ?_; rintro e w1 ⟨rfl, hb1⟩; obtain ⟨x0, x1, x2, x3, x4⟩ := BoxA.cells (BoxA.below HX.out hb1 (by have := HZ.out; omega)); obtain ⟨y0, y1, y2, y3, y4⟩ := BoxA.cells (BoxA.below HY.out hb1 (by have := HZ.out; omega)); have HB1 : Hid _ := hb1; clear hb1)
  go_ret
  exact ⟨rfl, HB0.out.trans (HB1.out.mono HB0.out.size)⟩

set_option maxHeartbeats 1000000 in
theorem markAreaOut_own (lo hi k : Nat) (vs vp : Value) (ls : List ByteArray) (lp : List (Int × ByteArray)) (t : ByteArray) (gn c : Int) (w : World) (h : Own w lo hi vs vp ls lp) (hhi : hi ≤ w.heap.size) (h1 : ls.length ≤ 1100000) (h2 : lp.length ≤ 1100000) (hk : k ≤ 10000000) :
    Calls Tryz.prog 11 #[outA vs vp t gn c, .int .i64 (k : Int)] w fun e w' => e = .returned (.int .i64 ((k + ls.length + 2 * lp.length : Nat) : Int)) ∧ Own w' lo hi vs vp (marks k ls.length) (marksP (k + ls.length) lp.length) ∧ Only (fun b => lo ≤ b ∧ b < hi) w w' := by
  have hB0 : Below w.heap.size w (w.alloc (Obj.cells #[vs, vp, .string t, .int .i64 gn, .int .i64 c] 31)) := (Below.refl _ _).alloc (Nat.le_refl _) _
  have HO : Hid (Own (w.alloc (Obj.cells #[vs, vp, .string t, .int .i64 gn, .int .i64 c] 31)) lo hi vs vp ls lp) := h.below hB0
  have HB0 : Hid (Only (fun b => lo ≤ b ∧ b < hi) w (w.alloc (Obj.cells #[vs, vp, .string t, .int .i64 gn, .int .i64 c] 31))) := Only.of_below _ hB0
  clear h hB0
  go_enter Tryz.func11, Tryz.ntmps11
  go_wp2_with (go_at_call 10; refine (markDisk_own lo hi k vs vp ls lp _ HO.out (by simp; omega) h1 h2 hk).mono ?_; rintro e w1 ⟨rfl, ho1, hg1⟩; have HO1 : Hid _ := ho1; clear ho1)
  go_ret
  exact ⟨rfl, HO1.out, HB0.out.trans hg1⟩

set_option maxHeartbeats 1000000 in
theorem heldAreaOut_own (lo hi k n m : Nat) (vs vp : Value) (t : ByteArray) (gn c : Int) (w : World) (h : Own w lo hi vs vp (marks k n) (marksP (k + n) m)) (h1 : n ≤ 1100000) (h2 : m ≤ 1100000) (hk : k ≤ 10000000) :
    Calls Tryz.prog 12 #[outA vs vp t gn c, .int .i64 (k : Int)] w fun e w' => e = .returned (.int .i64 ((k + n + 2 * m : Nat) : Int)) ∧ Below w.heap.size w w' := by
  have hB0 : Below w.heap.size w (w.alloc (Obj.cells #[vs, vp, .string t, .int .i64 gn, .int .i64 c] 31)) := (Below.refl _ _).alloc (Nat.le_refl _) _
  have HO : Hid (Own (w.alloc (Obj.cells #[vs, vp, .string t, .int .i64 gn, .int .i64 c] 31)) lo hi vs vp (marks k n) (marksP (k + n) m)) := h.below hB0
  have HB0 : Hid (Below w.heap.size w (w.alloc (Obj.cells #[vs, vp, .string t, .int .i64 gn, .int .i64 c] 31))) := hB0
  clear h hB0
  go_enter Tryz.func12, Tryz.ntmps12
  go_wp2_with (go_at_call 39; refine (heldDisk_own lo hi k n m vs vp _ HO.out h1 h2 hk).mono ?_; rintro e w1 ⟨rfl, hb1⟩)
  go_ret
  exact ⟨rfl, HB0.out.trans (hb1.mono HB0.out.size)⟩
end Go.Proofs.YtnfidmjplhmblaaGreatDoor.Disk

/- The steps by which a text comes to a disk: what they come to. -/
namespace Go.Proofs.YtnfidmjplhmblaaGreatDoor.Disk
open Go.RowKit Go.Proofs.YtnfidmjplhmblaaGreatDoor.Mem Go.Proofs.YtnfidmjplhmblaaGreatDoor.Harn Go.Proofs.YtnfidmjplhmblaaGreatDoor.DiskP

/-- A step: a flush, or a write of a sector. -/
abbrev Step := Bool × Int × ByteArray
def stepO (ls : List ByteArray) (lp : List (Int × ByteArray)) (y : Step) : Out := if y.1 = true then flushO ls lp else writeO ls lp y.2.1 y.2.2
/-- One step behind the other, up to the first that tells a code. -/
def runO (ls : List ByteArray) (lp : List (Int × ByteArray)) : List Step → AOut
  | [] => ⟨ls, lp, ByteArray.empty, 0, 0⟩
  | y :: r => if (stepO ls lp y).c = 0 then runO (stepO ls lp y).ls (stepO ls lp y).lp r else illA (stepO ls lp y).c
theorem stepO_fits (ls : List ByteArray) (lp : List (Int × ByteArray)) (y : Step) : Fits (stepO ls lp y).ls (stepO ls lp y).lp := by
  unfold stepO
  split
  · exact (flushO_flushed ls lp).f
  · exact (writeO_wrote ls lp y.2.1 y.2.2).f
theorem runO_drop (ls : List ByteArray) (lp : List (Int × ByteArray)) (σ : List Step) (k : Nat) (h : k < σ.length) : runO ls lp (σ.drop k) = if (stepO ls lp σ[k]).c = 0 then runO (stepO ls lp σ[k]).ls (stepO ls lp σ[k]).lp (σ.drop (k + 1)) else illA (stepO ls lp σ[k]).c := by
  rw [List.drop_eq_getElem_cons h]
  rfl
theorem runO_end (ls : List ByteArray) (lp : List (Int × ByteArray)) (σ : List Step) (k : Nat) (h : σ.length ≤ k) : runO ls lp (σ.drop k) = ⟨ls, lp, ByteArray.empty, 0, 0⟩ := by
  rw [List.drop_eq_nil_of_le h]
  rfl
theorem runO_fits (σ : List Step) : ∀ (ls : List ByteArray) (lp : List (Int × ByteArray)), Fits ls lp → Fits (runO ls lp σ).ls (runO ls lp σ).lp := by
  induction σ with
  | nil => intro ls lp h; exact h
  | cons y r ih =>
    intro ls lp h
    unfold runO
    split
    · exact ih _ _ (stepO_fits ls lp y)
    · exact fits_nil
/-- The slice v reads as the steps l. -/
def Steps (W : World) (v : Value) (l : List Step) : Prop :=
  ∃ a cap, v = .slice a l.length cap ∧ ∀ j (h : j < l.length), ∃ b o, a = some ⟨b, o, none⟩ ∧ W.cell? ⟨b, o + j * 3, none⟩ = some (.bool l[j].1) ∧ W.cell? ⟨b, o + j * 3 + 1, none⟩ = some (.int .i64 l[j].2.1) ∧ W.cell? ⟨b, o + j * 3 + 2, none⟩ = some (.string l[j].2.2)
theorem Steps.below {W W' : World} {v : Value} {l : List Step} (h : Steps W v l) (hb : Below W.heap.size W W') : Steps W' v l := by
  obtain ⟨a, cap, hv, hc⟩ := h
  refine ⟨a, cap, hv, fun j hj => ?_⟩
  obtain ⟨b, o, ha, h1, h2, h3⟩ := hc j hj
  refine ⟨b, o, ha, ?_, ?_, ?_⟩
  · rw [hb.cell (World.block_lt_of_cell? W _ h1)]; exact h1
  · rw [hb.cell (World.block_lt_of_cell? W _ h2)]; exact h2
  · rw [hb.cell (World.block_lt_of_cell? W _ h3)]; exact h3

theorem box2_set {W : World} {g : Nat} {vs vp us up : Value} (h : Box2 W g vs vp) : Box2 ((W.setCell ⟨g, 0, none⟩ us).setCell ⟨g, 1, none⟩ up) g us up := row_set (row_set h 0 us) 1 up
theorem onlyA_set1 (W : World) (b o : Nat) (v0 : Value) : Only (fun k => k = b) W (W.setCell ⟨b, o, none⟩ v0) := ⟨rfl, rfl, rfl, by simp, fun k _ hk => Below.heap_setCell _ _ _ _ hk⟩
theorem onlyA_set2 {W : World} {b : Nat} {v0 v1 : Value} : Only (fun k => k = b) W ((W.setCell ⟨b, 0, none⟩ v0).setCell ⟨b, 1, none⟩ v1) := (onlyA_set1 W b 0 v0).trans (onlyA_set1 _ b 1 v1)
theorem onlyA_set5 {W : World} {b : Nat} {v0 v1 v2 v3 v4 : Value} : Only (fun k => k = b) W (((((W.setCell ⟨b, 0, none⟩ v0).setCell ⟨b, 1, none⟩ v1).setCell ⟨b, 2, none⟩ v2).setCell ⟨b, 3, none⟩ v3).setCell ⟨b, 4, none⟩ v4) :=
  (((onlyA_set2.trans (onlyA_set1 _ b 2 v2)).trans (onlyA_set1 _ b 3 v3)).trans (onlyA_set1 _ b 4 v4))
end Go.Proofs.YtnfidmjplhmblaaGreatDoor.Disk

/- What stands on an area: its head, and the text of a side. -/
namespace Go.Proofs.YtnfidmjplhmblaaGreatDoor.Disk
open Go.RowKit Go.Proofs.YtnfidmjplhmblaaGreatDoor.Mem Go.Proofs.YtnfidmjplhmblaaGreatDoor.Harn Go.Proofs.YtnfidmjplhmblaaGreatDoor.DiskP Go.Proofs.YtnfidmjplhmblaaGreatDoor.GetNum Go.Proofs.YtnfidmjplhmblaaGreatDoor.PutNum Go.Proofs.YtnfidmjplhmblaaGreatDoor.Seal Go.Proofs.YtnfidmjplhmblaaGreatDoor.Unseal

/-- The three numbers of a head, if these are all that stands there. -/
def headNum (s : ByteArray) : Option (Int × Int × Int) :=
  if (rd s 0).1 = 0 ∧ (rd s (rd s 0).2.2).1 = 0 ∧ (rd s (rd s (rd s 0).2.2).2.2).1 = 0 ∧ (rd s (rd s (rd s 0).2.2).2.2).2.2 = s.size then some (unfoldI (rd s 0).2.1, unfoldI (rd s (rd s 0).2.2).2.1, unfoldI (rd s (rd s (rd s 0).2.2).2.2).2.1) else none

theorem rd_eta {s : ByteArray} {p : Nat} (h : (rd s p).1 = 0) : rd s p = (0, (rd s p).2.1, (rd s p).2.2) := by
  rw [← h]
theorem numB_data (n : Int) : (numB n).data.toList = putF 9 (foldN n) := by simp [numB, numL]
theorem size_list (s : ByteArray) : s.data.toList.length = s.size := by simp
/-- What the three numbers' bytes make is the text's beginning. -/
theorem three_nums {s : ByteArray} {y1 y2 y3 q1 q2 q3 : Nat} (h1 : rd s 0 = (0, y1, q1)) (h2 : rd s q1 = (0, y2, q2)) (h3 : rd s q2 = (0, y3, q3)) :
    (numB (unfoldI y1) ++ numB (unfoldI y2) ++ numB (unfoldI y3)).data.toList = s.data.toList.take q3 ∧ q3 ≤ s.size := by
  obtain ⟨a1, a2, a3⟩ := NumRound.rd_inv h1
  obtain ⟨b1, b2, b3⟩ := NumRound.rd_inv h2
  obtain ⟨c1, c2, c3⟩ := NumRound.rd_inv h3
  refine ⟨?_, c2⟩
  have e3 : s.data.toList.take q3 = s.data.toList.take q2 ++ putF 9 y3 := by rw [c1, List.take_add, c3]
  have e2 : s.data.toList.take q2 = s.data.toList.take q1 ++ putF 9 y2 := by rw [b1, List.take_add, b3]
  have e1 : s.data.toList.take q1 = putF 9 y1 := by rw [a1, Nat.zero_add]; simpa using a3
  rw [Crc.data_app, Crc.data_app, numB_data, numB_data, numB_data, NumRound.fold_unfold, NumRound.fold_unfold, NumRound.fold_unfold, e3, e2, e1]
/-- The head that the numbers make is the sector, just if nothing stands behind them. -/
theorem head_same {h : ByteArray} {y1 y2 y3 q1 q2 q3 : Nat} (hk : okSeal h = true) (h4 : 4 ≤ h.size) (h1 : rd (h.extract 0 (h.size - 4)) 0 = (0, y1, q1)) (h2 : rd (h.extract 0 (h.size - 4)) q1 = (0, y2, q2)) (h3 : rd (h.extract 0 (h.size - 4)) q2 = (0, y3, q3)) :
    headB (unfoldI y1) (unfoldI y2) (unfoldI y3) = h ↔ q3 = (h.extract 0 (h.size - 4)).size := by
  obtain ⟨e, hq⟩ := three_nums h1 h2 h3
  have hs : sealB (h.extract 0 (h.size - 4)) = h := by
    have := seal_same h
    rw [hk] at this
    have e2 : (sealB (h.extract 0 (h.size - 4))).toList = h.toList := by simpa using this
    refine ba_ext ?_
    rw [← list_eq, ← list_eq]; exact e2
  have hz : (h.extract 0 (h.size - 4)).size = h.size - 4 := by simp
  unfold headB
  generalize hX : numB (unfoldI y1) ++ numB (unfoldI y2) ++ numB (unfoldI y3) = X at *
  constructor
  · intro hh
    have hn := congrArg ByteArray.size hh
    rw [seal_size] at hn
    have hx : X.size = q3 := by
      rw [← size_list X, e, List.length_take, size_list]; omega
    omega
  · intro hh
    have hx : X = h.extract 0 (h.size - 4) := by
      refine ba_ext ?_
      rw [e, hh, ← size_list, List.take_length]
    rw [hx, hs]

/-- The head of a disk: its number, its side, its size, and the code. -/
def seenO (ls : List ByteArray) (lp : List (Int × ByteArray)) : Int × Int × Int × Int :=
  if (readD ls lp 0).size < 4 then (0, 0, 0, 4) else if okSeal (readD ls lp 0) = false then (0, 0, 0, 5) else
  match headNum ((readD ls lp 0).extract 0 ((readD ls lp 0).size - 4)) with
  | some (g, s, n) => if 0 ≤ g ∧ (0 ≤ s ∧ s ≤ 1) ∧ (0 ≤ n ∧ n ≤ ((64 * halfN ls : Nat) : Int)) then (g, s, n, 0) else (0, 0, 0, 3)
  | none => (0, 0, 0, 3)
/-- The first n bytes of what stands from sector i on, each sector full but the last. -/
def sideK (f : Nat → ByteArray) : Nat → Nat → Nat → Option ByteArray
  | 0, _, n => if n = 0 then some ByteArray.empty else none
  | m + 1, i, n => if n = 0 then some ByteArray.empty else if (f i).size < min 64 n then none else (sideK f m (i + 1) (n - min 64 n)).map (fun r => (f i).extract 0 (min 64 n) ++ r)
def firstN (ls : List ByteArray) (s : Nat) : Nat := 1 + s * halfN ls
/-- What AreaRead tells. -/
def readAO (ls : List ByteArray) (lp : List (Int × ByteArray)) : AOut :=
  if rightB ls lp = true then
    (if (seenO ls lp).2.2.2 = 0 then
      (match sideK (readD ls lp) (halfN ls) (firstN ls (seenO ls lp).2.1.toNat) (seenO ls lp).2.2.1.toNat with
      | some t => ⟨ls, lp, t, (seenO ls lp).1, 0⟩
      | none => illA 5)
    else illA (seenO ls lp).2.2.2)
  else illA 1
end Go.Proofs.YtnfidmjplhmblaaGreatDoor.Disk

/- A read of a sector that is there; cells of lists. -/
namespace Go.Proofs.YtnfidmjplhmblaaGreatDoor.Disk
open Go.RowKit Go.Proofs.YtnfidmjplhmblaaGreatDoor.Mem Go.Proofs.YtnfidmjplhmblaaGreatDoor.Harn Go.Proofs.YtnfidmjplhmblaaGreatDoor.DiskP

theorem fldO (a b : Value) (t : ByteArray) (c : Int) (w : World) : (Instr.field 49 (.agg #[a, b, .string t, .int .i64 c]) 1).run Tryz.prog w = .ok (.string t) w := by kernel_rfl
theorem specRead_at (vs vp : Value) (ls : List ByteArray) (lp : List (Int × ByteArray)) (k : Nat) (q : ByteArray) (w : World) (hr : rightB ls lp = true) (hk : k < ls.length) (hq : readD ls lp k = q) (hs : Strs w vs ls) (hp : Pends w vp lp) :
    Calls Tryz.prog 42 #[.agg #[vs, vp], .int .i64 (k : Int)] w fun e w' => ∃ us up, e = .returned (outV us up q 0) ∧ Below w.heap.size w w' := by
  have hf := fits_right hr
  have h := specRead_any vs vp ls lp (k : Int) w hs hp hf.n hf.m hf.t hf.y
  rw [readO_ok hr hk, hq] at h
  exact h.mono fun _ _ ⟨us, up, h1, _, h3⟩ => ⟨us, up, h1, h3⟩
theorem implRead_at (vs vp : Value) (ls : List ByteArray) (lp : List (Int × ByteArray)) (k : Nat) (q : ByteArray) (w : World) (hr : rightB ls lp = true) (hk : k < ls.length) (hq : readD ls lp k = q) (hs : Strs w vs ls) (hp : Pends w vp lp) :
    Calls Tryz.prog 65 #[.agg #[vs, vp], .int .i64 (k : Int)] w fun e w' => ∃ us up, e = .returned (outV us up q 0) ∧ Below w.heap.size w w' := by
  have hf := fits_right hr
  have h := implRead_any vs vp ls lp (k : Int) w hs hp hf.n hf.m hf.t hf.y
  rw [readO_ok hr hk, hq] at h
  exact h.mono fun _ _ ⟨us, up, h1, _, h3⟩ => ⟨us, up, h1, h3⟩
theorem strs_at {W : World} {a : Option Addr} {cap : Nat} {l : List ByteArray} (h : Strs W (.slice a l.length cap) l) (j : Nat) (hj : j < l.length) : ∃ b o, a = some ⟨b, o, none⟩ ∧ W.cell? ⟨b, o + j, none⟩ = some (.string l[j]) := by
  obtain ⟨a', c', hv, hc⟩ := h
  cases hv
  exact hc j hj
theorem pends_at {W : World} {a : Option Addr} {cap : Nat} {l : List (Int × ByteArray)} (h : Pends W (.slice a l.length cap) l) (j : Nat) (hj : j < l.length) : ∃ b o, a = some ⟨b, o, none⟩ ∧ W.cell? ⟨b, o + j * 2, none⟩ = some (.int .i64 l[j].1) ∧ W.cell? ⟨b, o + j * 2 + 1, none⟩ = some (.string l[j].2) := by
  obtain ⟨a', c', hv, hc⟩ := h
  cases hv
  exact hc j hj
theorem readD_size {ls : List ByteArray} {lp : List (Int × ByteArray)} (h : rightB ls lp = true) (k : Nat) (hk : k < ls.length) : (readD ls lp k).size ≤ 64 := by
  obtain ⟨_, _, _, h4, h5⟩ := (right_iff ls lp).1 h
  cases e : lastOf lp (k : Int) with
  | none => rw [readD_none e hk]; exact h4 _ (List.getElem_mem hk)
  | some y => rw [readD_some e]; exact (h5 y (lastOf_mem e).1).2.2
end Go.Proofs.YtnfidmjplhmblaaGreatDoor.Disk

/- Where a side of an area begins; the lesser of two numbers: the model. -/
namespace Go.Proofs.YtnfidmjplhmblaaGreatDoor.Disk
open Go.RowKit Go.Proofs.YtnfidmjplhmblaaGreatDoor.Mem Go.Proofs.YtnfidmjplhmblaaGreatDoor.Harn Go.Proofs.YtnfidmjplhmblaaGreatDoor.DiskP

theorem specMin_any (a b c : Int) (w : World) (h : c = if a < b then a else b) : Calls Tryz.prog 23 #[.int .i64 a, .int .i64 b] w fun e w' => e = .returned (.int .i64 c) ∧ w = w' := by
  subst h
  by_cases hl : a < b
  · rw [if_pos hl]
    go_enter Tryz.func23, Tryz.ntmps23
    go_wp2
    go_ret
    exact ⟨rfl, rfl⟩
  · rw [if_neg hl]
    go_enter Tryz.func23, Tryz.ntmps23
    go_wp2
    go_ret
    exact ⟨rfl, rfl⟩

set_option maxRecDepth 100000 in
set_option maxHeartbeats 1000000 in
theorem specFirst_any (vs vp : Value) (ls : List ByteArray) (s : Nat) (w : World) (hs : Strs w vs ls) (h0 : 1 ≤ ls.length) (h64 : ls.length ≤ 64) (h1 : s ≤ 1) :
    Calls Tryz.prog 22 #[.agg #[vs, vp], .int .i64 (s : Int)] w fun e w' => e = .returned (.int .i64 ((1 + s * halfN ls : Nat) : Int)) ∧ Below w.heap.size w w' := by
  have h31 := halfN_le h64
  have HB0 : Hid (Below w.heap.size w (w.alloc (.cells #[vs, vp] 29))) := bself _
  have K : Hid (Calls Tryz.prog 19 #[.agg #[vs, vp]] (w.alloc (.cells #[vs, vp] 29)) fun e w' => e = .returned (.int .i64 (halfN ls : Nat)) ∧ Below (w.alloc (.cells #[vs, vp] 29)).heap.size (w.alloc (.cells #[vs, vp] 29)) w') := specHalf_any vs vp ls _ (hs.below HB0.out) h0 (by omega)
  clear hs
  generalize halfN ls = hn at *
  have hc : s = 0 ∨ s = 1 := by omega
  rcases hc with rfl | rfl
  all_goals
    go_enter Tryz.func22, Tryz.ntmps22
    go_wp2_with (go_at_call 19; refine K.out.mono ?_; rintro e w1 ⟨rfl, hb1⟩; have HB1 : Hid _ := hb1; clear hb1)
    go_ret
    exact ⟨by simp, bT HB0.out HB1.out⟩
end Go.Proofs.YtnfidmjplhmblaaGreatDoor.Disk

/- The text of a side, sector by sector. -/
namespace Go.Proofs.YtnfidmjplhmblaaGreatDoor.Disk
open Go.RowKit

theorem side_done (f : Nat → ByteArray) (m i : Nat) : sideK f m i 0 = some ByteArray.empty := by cases m <;> simp [sideK]
theorem side_short {f : Nat → ByteArray} {m i n : Nat} (hn : 0 < n) (h : (f i).size < min 64 n) : sideK f (m + 1) i n = none := by
  rw [sideK, if_neg (by omega), if_pos h]
theorem side_step {f : Nat → ByteArray} {m i n : Nat} (hn : 0 < n) (h : ¬ (f i).size < min 64 n) : sideK f (m + 1) i n = (sideK f m (i + 1) (n - min 64 n)).map (fun r => (f i).extract 0 (min 64 n) ++ r) := by
  rw [sideK, if_neg (by omega), if_neg h]
theorem app_assoc (a b c : ByteArray) : a ++ b ++ c = a ++ (b ++ c) := by
  refine Unseal.ba_ext ?_
  rw [Crc.data_app, Crc.data_app, Crc.data_app, Crc.data_app, List.append_assoc]
theorem empty_app (a : ByteArray) : ByteArray.empty ++ a = a := Unseal.empty_app a
theorem app_empty (a : ByteArray) : a ++ ByteArray.empty = a := by
  refine Unseal.ba_ext ?_
  rw [Crc.data_app]
  exact List.append_nil _
/-- What was gathered so far, and what is still to come. -/
def SideRel (f : Nat → ByteArray) (R : Option ByteArray) (m i n : Nat) (acc : ByteArray) : Prop := R = (sideK f m i n).map (fun r => acc ++ r)
theorem side_rel0 (f : Nat → ByteArray) (m i n : Nat) : SideRel f (sideK f m i n) m i n ByteArray.empty := by
  unfold SideRel
  cases sideK f m i n with
  | none => rfl
  | some r => simp
theorem side_rel1 {f : Nat → ByteArray} {R : Option ByteArray} {m i n : Nat} {acc : ByteArray} (h : SideRel f R (m + 1) i n acc) (hn : 0 < n) (h2 : ¬ (f i).size < min 64 n) : SideRel f R m (i + 1) (n - min 64 n) (acc ++ (f i).extract 0 (min 64 n)) := by
  unfold SideRel at *
  rw [h, side_step hn h2, Option.map_map]
  congr 1
  funext r
  exact (app_assoc _ _ _).symm
theorem side_relN {f : Nat → ByteArray} {R : Option ByteArray} {m i n : Nat} {acc : ByteArray} (h : SideRel f R (m + 1) i n acc) (hn : 0 < n) (h2 : (f i).size < min 64 n) : R = none := by
  rw [h, side_short hn h2]; rfl
theorem side_relS {f : Nat → ByteArray} {R : Option ByteArray} {m i : Nat} {acc : ByteArray} (h : SideRel f R m i 0 acc) : R = some acc := by
  rw [h, side_done]
  simp
end Go.Proofs.YtnfidmjplhmblaaGreatDoor.Disk
