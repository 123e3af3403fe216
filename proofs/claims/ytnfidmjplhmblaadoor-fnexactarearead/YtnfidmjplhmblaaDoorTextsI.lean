/- Laws that the proof rests on, put together: The law on DiskNew. What the laws on the disk's functions lean on: boxes, and what is kept in them. The head of an area, as it is sealed: the program and the model. How much room a side of a disk has: the program and the model. What the promise on disks leans on: what the calls tell, and the boxes that its walk keeps. A read of a sector that is there; cells of lists. Where a side of an area begins; the lesser of two numbers: the model. What the program's DiskWrite answers. -/
import Derived.Test.YtnfidmjplhmblaaDoorTextsF
import Derived.Test.YtnfidmjplhmblaaDoorImplRead
import Derived.Test.YtnfidmjplhmblaaDoorTextsH
import Derived.Test.YtnfidmjplhmblaaDoorTextsB
import Derived.Test.YtnfidmjplhmblaaDoorTextsC
import Derived.Deep.RegionHeld3
import Derived.Test.YtnfidmjplhmblaaDoorTextsA
import Derived.Laws.StructEq
import Derived.Test.YtnfidmjplhmblaaDoorSpecRead
import Derived.Deep.RegionLaw
/- The law on DiskNew. -/
namespace Go.Proofs.YtnfidmjplhmblaaDoor.Disk
open Go.RowKit Go.Proofs.YtnfidmjplhmblaaDoor.Mem Go.Proofs.YtnfidmjplhmblaaDoor.Harn Go.Proofs.YtnfidmjplhmblaaDoor.DiskP Go.Proofs.YtnfidmjplhmblaaDoor.Mark

theorem length_newD (n : Int) : (newD n).length ≤ 64 := by
  unfold newD
  split
  · simp; omega
  · simp
theorem Box2.only {p : Nat → Prop} {W W' : World} {g : Nat} {vs vp : Value} (h : Box2 W g vs vp) (hg : Only p W W') (hp : ¬ p g) : Box2 W' g vs vp := hg.row h hp
theorem box2_at (w : World) (vs vp : Value) : Box2 (w.alloc (.cells #[vs, vp] 29)) w.heap.size vs vp := Sha.row_new w [vs, vp] 29
theorem Box2.alloc {W : World} {g : Nat} {vs vp : Value} (h : Box2 W g vs vp) (o : Obj) : Box2 (W.alloc o) g vs vp := Sha.row_alloc h o

end Go.Proofs.YtnfidmjplhmblaaDoor.Disk

/- What the laws on the disk's functions lean on: boxes, and what is kept in them. -/
namespace Go.Proofs.YtnfidmjplhmblaaDoor.Disk
open Go.RowKit Go.Proofs.YtnfidmjplhmblaaDoor.Mem Go.Proofs.YtnfidmjplhmblaaDoor.Harn Go.Proofs.YtnfidmjplhmblaaDoor.DiskP Go.Proofs.YtnfidmjplhmblaaDoor.Mark

/-- A box that holds what was told. -/
def BoxO (W : World) (g : Nat) (vs vp : Value) (t : ByteArray) (c : Int) : Prop := HasRow W g [vs, vp, .string t, .int .i64 c] 47
theorem BoxO.cells {W : World} {g : Nat} {vs vp : Value} {t : ByteArray} {c : Int} (h : BoxO W g vs vp t c) : W.cell? ⟨g, 0, none⟩ = some vs ∧ W.cell? ⟨g, 1, none⟩ = some vp ∧ W.cell? ⟨g, 2, none⟩ = some (.string t) ∧ W.cell? ⟨g, 3, none⟩ = some (.int .i64 c) := ⟨Mem.cell_of_row h 0, Mem.cell_of_row h 1, Mem.cell_of_row h 2, Mem.cell_of_row h 3⟩
theorem BoxO.below {W W' : World} {g B : Nat} {vs vp : Value} {t : ByteArray} {c : Int} (h : BoxO W g vs vp t c) (hb : Below B W W') (hg : g < B) : BoxO W' g vs vp t c := Sha.row_below h hb hg
theorem BoxO.only {p : Nat → Prop} {W W' : World} {g : Nat} {vs vp : Value} {t : ByteArray} {c : Int} (h : BoxO W g vs vp t c) (hg : Only p W W') (hp : ¬ p g) : BoxO W' g vs vp t c := hg.row h hp
theorem BoxO.alloc {W : World} {g : Nat} {vs vp : Value} {t : ByteArray} {c : Int} (h : BoxO W g vs vp t c) (o : Obj) : BoxO (W.alloc o) g vs vp t c := Sha.row_alloc h o
theorem boxO_at (w : World) (vs vp : Value) (t : ByteArray) (c : Int) : BoxO (w.alloc (.cells #[vs, vp, .string t, .int .i64 c] 47)) w.heap.size vs vp t c := Sha.row_new w [vs, vp, .string t, .int .i64 c] 47
theorem Box25.only {p : Nat → Prop} {W W' : World} {g : Nat} {vs vp : Value} (h : Box25 W g vs vp) (hg : Only p W W') (hp : ¬ p g) : Box25 W' g vs vp := hg.row h hp
theorem Box25.alloc {W : World} {g : Nat} {vs vp : Value} (h : Box25 W g vs vp) (o : Obj) : Box25 (W.alloc o) g vs vp := Sha.row_alloc h o
theorem box25_at (w : World) (vs vp : Value) : Box25 (w.alloc (.cells #[vs, vp] 25)) w.heap.size vs vp := Sha.row_new w [vs, vp] 25
theorem bself {w : World} (o : Obj) : Below w.heap.size w (w.alloc o) := (Below.refl _ _).alloc (Nat.le_refl _) _

theorem readO_len {ls : List ByteArray} {lp : List (Int × ByteArray)} (x : Int) (h : Fits ls lp) : (readO ls lp x).ls.length ≤ 1100000 ∧ (readO ls lp x).lp.length ≤ 1100000 := by
  unfold readO
  split
  · split
    · exact ⟨h.n, h.m⟩
    · exact ⟨by simp [ill], by simp [ill]⟩
  · exact ⟨by simp [ill], by simp [ill]⟩
theorem flushO_len {ls : List ByteArray} {lp : List (Int × ByteArray)} (h : Fits ls lp) : (flushO ls lp).ls.length ≤ 1100000 ∧ (flushO ls lp).lp.length ≤ 1100000 := by
  unfold flushO
  split
  · exact ⟨by simp only [length_flushD]; exact h.n, by simp⟩
  · exact ⟨by simp [ill], by simp [ill]⟩
theorem writeO_len {ls : List ByteArray} {lp : List (Int × ByteArray)} (x : Int) (t : ByteArray) (h : Fits ls lp) : (writeO ls lp x t).ls.length ≤ 1100000 ∧ (writeO ls lp x t).lp.length ≤ 1100000 := by
  unfold writeO
  split
  · exact ⟨by simp [ill], by simp [ill]⟩
  · split
    · exact ⟨by simp [ill], by simp [ill]⟩
    · rename_i hr
      split
      · exact ⟨by simp [ill], by simp [ill]⟩
      · split
        · exact ⟨by simp [ill], by simp [ill]⟩
        · refine ⟨h.n, ?_⟩
          have hr2 : rightB ls lp = true := by cases e : rightB ls lp with | true => rfl | false => exact absurd (.inl e) hr
          have := ((right_iff ls lp).1 hr2).2.2.1
          simp; omega
end Go.Proofs.YtnfidmjplhmblaaDoor.Disk

/- The head of an area, as it is sealed: the program and the model. -/
namespace Go.Proofs.YtnfidmjplhmblaaDoor.Disk
open Go.RowKit Go.Proofs.YtnfidmjplhmblaaDoor.Mem Go.Proofs.YtnfidmjplhmblaaDoor.Harn Go.Proofs.YtnfidmjplhmblaaDoor.DiskP

/-- The head of a number, a side and a size, sealed. -/
def headB (g s n : Int) : ByteArray := Seal.sealB (PutNum.numB g ++ PutNum.numB s ++ PutNum.numB n)
theorem numB_size (n : Int) : 1 ≤ (PutNum.numB n).size ∧ (PutNum.numB n).size ≤ 10 := by
  have h := PutNum.length_numL n
  have e : (PutNum.numB n).size = (PutNum.numL n).length := by show (PutNum.numL n).toArray.size = _; simp
  rw [e]; exact h
theorem headB_size (g s n : Int) : (headB g s n).size ≤ 34 := by
  have h1 := numB_size g
  have h2 := numB_size s
  have h3 := numB_size n
  have h4 := Four.size_fourB (Crc.crcOf 0 (PutNum.numB g ++ PutNum.numB s ++ PutNum.numB n))
  unfold headB Seal.sealB
  simp only [ByteArray.size_append] at *
  omega

set_option maxRecDepth 100000 in
set_option maxHeartbeats 1000000 in
theorem specHead_any (g s n : Int) (w : World) (hg1 : -9223372036854775808 ≤ g) (hg2 : g ≤ 9223372036854775807) (hs1 : -9223372036854775808 ≤ s) (hs2 : s ≤ 9223372036854775807) (hn1 : -9223372036854775808 ≤ n) (hn2 : n ≤ 9223372036854775807) :
    Calls Tryd.prog 36 #[.int .i64 g, .int .i64 s, .int .i64 n] w fun e w' => e = .returned (.string (headB g s n)) ∧ Below w.heap.size w w' := by
  have h1 := (numB_size g).2
  have h2 := (numB_size s).2
  have h3 := (numB_size n).2
  have KG : Hid (∀ W, Calls Tryd.prog 55 #[.int .i64 g] W fun e w' => e = .returned (.string (PutNum.numB g)) ∧ Below W.heap.size W w') := fun W => PutNum.specPutNum_any g W hg1 hg2
  have KS : Hid (∀ W, Calls Tryd.prog 55 #[.int .i64 s] W fun e w' => e = .returned (.string (PutNum.numB s)) ∧ Below W.heap.size W w') := fun W => PutNum.specPutNum_any s W hs1 hs2
  have KN : Hid (∀ W, Calls Tryd.prog 55 #[.int .i64 n] W fun e w' => e = .returned (.string (PutNum.numB n)) ∧ Below W.heap.size W w') := fun W => PutNum.specPutNum_any n W hn1 hn2
  have KH : Hid (∀ W, Calls Tryd.prog 54 #[.string (PutNum.numB g ++ PutNum.numB s ++ PutNum.numB n)] W fun e w' => e = .returned (.string (headB g s n)) ∧ Below W.heap.size W w') := fun W => Seal.specSeal_in _ W (by simp only [ByteArray.size_append]; omega)
  generalize headB g s n = hd at *
  generalize PutNum.numB g = ag at *
  generalize PutNum.numB s = as2 at *
  generalize PutNum.numB n = an at *
  go_enter Tryd.func36, Tryd.ntmps36
  go_wp2_with fail
  refine (KG.out _).mono ?_
  rintro e w1 ⟨rfl, hb1⟩
  go_wp2_with fail
  refine (KS.out _).mono ?_
  rintro e w2 ⟨rfl, hb2⟩
  go_wp2_with fail
  refine (KN.out _).mono ?_
  rintro e w3 ⟨rfl, hb3⟩
  go_wp2_with fail
  refine (KH.out _).mono ?_
  rintro e w4 ⟨rfl, hb4⟩
  go_wp2
  go_ret
  exact ⟨rfl, bT (bT (bT hb1 hb2) hb3) hb4⟩

end Go.Proofs.YtnfidmjplhmblaaDoor.Disk

/- How much room a side of a disk has: the program and the model. -/
namespace Go.Proofs.YtnfidmjplhmblaaDoor.Disk
open Go.RowKit Go.Proofs.YtnfidmjplhmblaaDoor.Mem Go.Proofs.YtnfidmjplhmblaaDoor.Harn Go.Proofs.YtnfidmjplhmblaaDoor.DiskP

/-- How many sectors a side has. -/
def halfN (ls : List ByteArray) : Nat := (ls.length - 1) / 2
/-- How many bytes a side has room for. -/
def roomN (ls : List ByteArray) (lp : List (Int × ByteArray)) : Nat := if rightB ls lp = true then 64 * halfN ls else 0

theorem quo2 (n : Nat) (h : 1 ≤ n) : ((n : Int) - 1).tdiv 2 = (((n - 1) / 2 : Nat) : Int) := by
  rw [Int.tdiv_eq_ediv_of_nonneg (by omega)]
  omega

set_option maxRecDepth 100000 in
set_option maxHeartbeats 1000000 in
theorem specHalf_any (vs vp : Value) (ls : List ByteArray) (w : World) (hs : Strs w vs ls) (h0 : 1 ≤ ls.length) (h1 : ls.length ≤ 1100000) :
    Calls Tryd.prog 37 #[.agg #[vs, vp]] w fun e w' => e = .returned (.int .i64 (halfN ls : Nat)) ∧ Below w.heap.size w w' := by
  obtain ⟨a, cap, rfl, _⟩ := hs
  have hq := quo2 ls.length h0
  have hh : halfN ls = (ls.length - 1) / 2 := rfl
  have HH : Hid (halfN ls = (ls.length - 1) / 2) := hh
  clear hh
  go_enter Tryd.func37, Tryd.ntmps37
  go_wp2
  go_ret
  exact ⟨by first | rfl | (rw [HH.out]; congr 2; omega), (Below.refl _ _).alloc (Nat.le_refl _) _⟩

set_option maxRecDepth 100000 in
set_option maxHeartbeats 1000000 in
theorem implSide_any (vs vp : Value) (ls : List ByteArray) (w : World) (hs : Strs w vs ls) (h0 : 1 ≤ ls.length) (h1 : ls.length ≤ 1100000) :
    Calls Tryd.prog 62 #[.agg #[vs, vp]] w fun e w' => e = .returned (.int .i64 (halfN ls : Nat)) ∧ Below w.heap.size w w' := by
  obtain ⟨a, cap, rfl, _⟩ := hs
  have hq := quo2 ls.length h0
  have hh : halfN ls = (ls.length - 1) / 2 := rfl
  have HH : Hid (halfN ls = (ls.length - 1) / 2) := hh
  clear hh
  go_enter Tryd.func62, Tryd.ntmps62
  go_wp2
  go_ret
  exact ⟨by first | rfl | (rw [HH.out]; congr 2; omega), (Below.refl _ _).alloc (Nat.le_refl _) _⟩

theorem roomN_no {ls : List ByteArray} {lp : List (Int × ByteArray)} (h : rightB ls lp = false) : roomN ls lp = 0 := by unfold roomN; rw [h]; rfl
theorem roomN_yes {ls : List ByteArray} {lp : List (Int × ByteArray)} (h : rightB ls lp = true) : roomN ls lp = 64 * halfN ls := by unfold roomN; rw [if_pos h]
theorem halfN_le {ls : List ByteArray} (h : ls.length ≤ 64) : halfN ls ≤ 31 := by unfold halfN; omega

set_option maxRecDepth 100000 in
set_option maxHeartbeats 1000000 in
theorem implRoom_any (vs vp : Value) (ls : List ByteArray) (lp : List (Int × ByteArray)) (w : World) (hs : Strs w vs ls) (hp : Pends w vp lp) (hf : Fits ls lp) :
    Calls Tryd.prog 43 #[.agg #[vs, vp]] w fun e w' => e = .returned (.int .i64 (roomN ls lp : Nat)) ∧ Below w.heap.size w w' := by
  obtain ⟨W0, hW0⟩ : ∃ W0, W0 = w.alloc (.cells #[vs, vp] 29) := ⟨_, rfl⟩
  have hB0 : Below w.heap.size w W0 := by rw [hW0]; exact bself _
  have HB0 : Hid (Below w.heap.size w W0) := hB0
  have HX : Hid (Box2 W0 w.heap.size vs vp) := by rw [hW0]; exact Sha.row_new w [vs, vp] 29
  have HZ : Hid (W0.heap.size = w.heap.size + 1) := by rw [hW0]; simp [Hid]
  have K1 : Hid (Calls Tryd.prog 40 #[.agg #[vs, vp]] W0 fun e w' => e = .returned (.bool (rightB ls lp)) ∧ Below W0.heap.size W0 w') := implRight_any vs vp ls lp W0 (hs.below hB0) (hp.below hB0) hf.n hf.m hf.t hf.y
  have HS : Hid (Strs W0 vs ls) := hs.below hB0
  clear hs hp hB0 hf
  cases hr : rightB ls lp
  · rw [roomN_no hr]
    rw [hr] at K1
    clear hr
    go_enter Tryd.func43, Tryd.ntmps43
    go_wp2_with (go_at_call 40; rw [← hW0]; clear hW0; refine K1.out.mono ?_; rintro e w1 ⟨rfl, hb1⟩; have HB1 : Hid _ := hb1; clear hb1)
    go_ret
    exact ⟨rfl, bT HB0.out HB1.out⟩
  · have hl := ((right_iff ls lp).1 hr).1
    have hl2 := ((right_iff ls lp).1 hr).2.1
    have h31 := halfN_le hl2
    rw [roomN_yes hr]
    rw [hr] at K1
    clear hr
    have K2 : Hid (∀ W, Below W0.heap.size W0 W → Calls Tryd.prog 62 #[.agg #[vs, vp]] W fun e w' => e = .returned (.int .i64 (halfN ls : Nat)) ∧ Below W.heap.size W w') := fun W hb => implSide_any vs vp ls W (HS.out.below hb) hl (by omega)
    generalize halfN ls = hn at *
    go_enter Tryd.func43, Tryd.ntmps43
    go_wp2_with (first | (go_at_call 40; rw [← hW0]; clear hW0; refine K1.out.mono ?_; rintro e w1 ⟨rfl, hb1⟩; obtain ⟨x0, x1, _⟩ := Box2.cells (Box2.below HX.out hb1 (by have := HZ.out; omega)); have HB1 : Hid _ := hb1; clear hb1) | (go_at_call 62; refine (K2.out _ HB1.out).mono ?_; rintro e w2 ⟨rfl, hb2⟩; have HB2 : Hid _ := hb2; clear hb2))
    go_ret
    exact ⟨by go_num, bT (bT HB0.out HB1.out) HB2.out⟩
end Go.Proofs.YtnfidmjplhmblaaDoor.Disk

/- What the promise on disks leans on: what the calls tell, and the boxes that its walk keeps. -/
namespace Go.Proofs.YtnfidmjplhmblaaDoor.DiskP

theorem beqB (t : ByteArray) : (t == t) = true := by rw [beq_toListBytes]; simp
theorem flush_none (ls : List ByteArray) (kp : List Int) : flushD ls (keptD [] kp) = ls := rfl
theorem read_flushed (ls : List ByteArray) (lp : List (Int × ByteArray)) (h0 : ∀ y ∈ lp, 0 ≤ y.1) (k : Nat) (hk : k < ls.length) : readD (flushD ls lp) [] k = readD ls lp k := by
  rw [readD_nil _ k (by rw [length_flushD]; exact hk), flushD_at ls lp h0 k hk]
/-- Is the text at place k the sector's, or one of the first j pending ones' there? -/
def someTo (s t : ByteArray) (k : Nat) (lp : List (Int × ByteArray)) (j : Nat) : Bool := (t == s) || (lp.take j).any (fun y => y.1 == (k : Int) && y.2 == t)
theorem someTo_start (s t : ByteArray) (k : Nat) (lp : List (Int × ByteArray)) : someTo s t k lp 0 = (t == s) := by simp [someTo]
theorem someTo_step (s t : ByteArray) (k : Nat) (lp : List (Int × ByteArray)) (j : Nat) (h : j < lp.length) : someTo s t k lp (j + 1) = (someTo s t k lp j || (lp[j].1 == (k : Int) && lp[j].2 == t)) := by
  unfold someTo
  rw [List.take_succ_eq_append_getElem h, List.any_append]
  simp [Bool.or_assoc]
theorem someTo_end (ls : List ByteArray) (lp : List (Int × ByteArray)) (kp : List Int) (k : Nat) (hk : k < ls.length) : someTo ls[k] (readD ls (keptD lp kp) k) k lp lp.length = true := by
  unfold someTo
  rw [List.take_length]
  cases e : lastOf (keptD lp kp) (k : Int) with
  | none => rw [readD_none e hk, beqB]; rfl
  | some y =>
    obtain ⟨h1, h2⟩ := lastOf_mem e
    rw [readD_some e]
    have : lp.any (fun z => z.1 == (k : Int) && z.2 == y.2) = true := List.any_eq_true.2 ⟨y, keptTo_mem lp kp lp.length y h1, by simp [h2, beqB]⟩
    rw [this]
    simp
end Go.Proofs.YtnfidmjplhmblaaDoor.DiskP

namespace Go.Proofs.YtnfidmjplhmblaaDoor.Disk
open Go.RowKit Go.Proofs.YtnfidmjplhmblaaDoor.Mem Go.Proofs.YtnfidmjplhmblaaDoor.Harn Go.Proofs.YtnfidmjplhmblaaDoor.DiskP

theorem fits_right {ls : List ByteArray} {lp : List (Int × ByteArray)} (h : rightB ls lp = true) : Fits ls lp := by
  obtain ⟨h1, h2, h3, h4, h5⟩ := (right_iff ls lp).1 h
  refine ⟨by omega, by omega, fun t ht => ?_, fun y hy => ?_, fun t ht => ?_, fun y hy => ?_⟩
  · have := h4 t ht; unfold maxLen; omega
  · obtain ⟨a, b, c⟩ := h5 y hy; unfold maxLen; omega
  · have := h4 t ht; omega
  · obtain ⟨a, b, c⟩ := h5 y hy; omega
theorem fits_nil : Fits [] [] := ⟨by simp, by simp, by simp, by simp, by simp, by simp⟩
theorem fits_new (n : Int) : Fits (newD n) [] := by
  unfold newD
  split
  · rename_i h
    refine ⟨by simp; omega, by simp, fun t ht => ?_, by simp, fun t ht => ?_, by simp⟩
    · rw [List.eq_of_mem_replicate ht]; unfold maxLen; simp
    · rw [List.eq_of_mem_replicate ht]; simp
  · exact fits_nil
/-- What a write told, as the promise wants it. -/
structure WroteR (ls : List ByteArray) (lp : List (Int × ByteArray)) (x : Int) (t : ByteArray) (o : Out) : Prop where
  f : Fits o.ls o.lp
  r : o.c = 0 → rightB o.ls o.lp = true
  l : o.c = 0 → o.ls = ls ∧ o.lp = lp ++ [(x, t)]
  d : o.c = 0 → rightB ls lp = true
theorem wrote_ill (ls : List ByteArray) (lp : List (Int × ByteArray)) (x : Int) (t : ByteArray) {c : Int} (h : c ≠ 0) : WroteR ls lp x t (ill c) := ⟨fits_nil, fun e => absurd e h, fun e => absurd e h, fun e => absurd e h⟩
theorem writeO_wrote (ls : List ByteArray) (lp : List (Int × ByteArray)) (x : Int) (t : ByteArray) : WroteR ls lp x t (writeO ls lp x t) := by
  unfold writeO
  split
  · exact wrote_ill _ _ _ _ (by decide)
  · split
    · exact wrote_ill _ _ _ _ (by decide)
    · rename_i h8 hr
      split
      · exact wrote_ill _ _ _ _ (by decide)
      · rename_i hx
        split
        · exact wrote_ill _ _ _ _ (by decide)
        · rename_i h2
          have hr2 : rightB ls lp = true := by cases e : rightB ls lp with | true => rfl | false => exact absurd (.inl e) hr
          have ht : t.size ≤ 64 := by
            rcases Nat.lt_or_ge 64 t.size with h | h
            · exact absurd (.inr h) hr
            · exact h
          have hq : rightB ls (lp ++ [(x, t)]) = true := by
            rw [right_iff] at hr2 ⊢
            obtain ⟨a1, a2, a3, a4, a5⟩ := hr2
            refine ⟨a1, a2, by simp; omega, a4, fun y hy => ?_⟩
            rcases List.mem_append.1 hy with h | h
            · exact a5 y h
            · rw [List.mem_singleton.1 h]; exact ⟨by simp only; omega, by simp only; omega, ht⟩
          exact ⟨fits_right hq, fun _ => hq, fun _ => ⟨rfl, rfl⟩, fun _ => hr2⟩
theorem flush_right {ls : List ByteArray} {lq lp : List (Int × ByteArray)} (h : rightB ls lp = true) (hs : ∀ y ∈ lq, y ∈ lp) : rightB (flushD ls lq) [] = true := by
  rw [right_iff] at h ⊢
  obtain ⟨a1, a2, a3, a4, a5⟩ := h
  refine ⟨by rw [length_flushD]; exact a1, by rw [length_flushD]; exact a2, by simp, ?_, by simp⟩
  have key : ∀ lq : List (Int × ByteArray), (∀ y ∈ lq, y ∈ lp) → ∀ t ∈ flushD ls lq, t.size ≤ 64 := by
    refine snoc_ind (fun _ => a4) (fun l z ih h t ht => ?_)
    rw [flushD_snoc] at ht
    rcases List.mem_or_eq_of_mem_set ht with h1 | h1
    · exact ih (fun y hy => h y (by simp [hy])) t h1
    · rw [h1]; exact (a5 z (h z (by simp))).2.2
  exact key lq hs
/-- What a flush told. -/
structure FlushedR (ls : List ByteArray) (lp : List (Int × ByteArray)) (o : Out) : Prop where
  f : Fits o.ls o.lp
  r : o.c = 0 → rightB o.ls o.lp = true
  l : o.c = 0 → o.ls = flushD ls lp ∧ o.lp = []
  d : o.c = 0 → rightB ls lp = true
theorem flushO_flushed (ls : List ByteArray) (lp : List (Int × ByteArray)) : FlushedR ls lp (flushO ls lp) := by
  unfold flushO
  split
  · rename_i h
    have hq := flush_right h (lq := lp) (fun _ h => h)
    exact ⟨fits_right hq, fun _ => hq, fun _ => ⟨rfl, rfl⟩, fun _ => h⟩
  · exact ⟨fits_nil, fun e => absurd e (by decide), fun e => absurd e (by decide), fun e => absurd e (by decide)⟩
theorem crashO_fits {ls : List ByteArray} {lp : List (Int × ByteArray)} (kp : List Int) (h : Fits ls lp) : Fits (crashO ls lp kp).1 (crashO ls lp kp).2 := by
  unfold crashO
  split
  · exact fits_nil
  · split
    · rename_i h1 h2
      exact fits_right (flush_right h2 (fun y hy => keptTo_mem lp kp _ y hy))
    · exact h
/-- What a read told. -/
theorem readO_read {ls : List ByteArray} {lp : List (Int × ByteArray)} (x : Int) (h : Fits ls lp) : Fits (readO ls lp x).ls (readO ls lp x).lp ∧ ((readO ls lp x).c = 0 → rightB (readO ls lp x).ls (readO ls lp x).lp = true) := by
  unfold readO
  split
  · rename_i h1
    split
    · exact ⟨h, fun _ => h1⟩
    · exact ⟨fits_nil, fun e => absurd e (by decide)⟩
  · exact ⟨fits_nil, fun e => absurd e (by decide)⟩

/-- A box that holds a disk, and the disk. -/
structure BoxD (W : World) (g : Nat) (va : Option Addr) (ca : Nat) (vb : Option Addr) (cb : Nat) (ls : List ByteArray) (lp : List (Int × ByteArray)) : Prop where
  b : Box2 W g (.slice va ls.length ca) (.slice vb lp.length cb)
  s : Strs W (.slice va ls.length ca) ls
  p : Pends W (.slice vb lp.length cb) lp
  z : g < W.heap.size
theorem BoxD.below {W W' : World} {g : Nat} {va : Option Addr} {ca : Nat} {vb : Option Addr} {cb : Nat} {ls : List ByteArray} {lp : List (Int × ByteArray)} (h : BoxD W g va ca vb cb ls lp) (hb : Below W.heap.size W W') : BoxD W' g va ca vb cb ls lp :=
  ⟨h.b.below hb h.z, h.s.below hb, h.p.below hb, Nat.lt_of_lt_of_le h.z hb.size⟩
theorem boxD_new {w : World} {va : Option Addr} {ca : Nat} {vb : Option Addr} {cb : Nat} {ls : List ByteArray} {lp : List (Int × ByteArray)} (hs : Strs w (.slice va ls.length ca) ls) (hp : Pends w (.slice vb lp.length cb) lp) : BoxD (w.alloc (.cells #[.slice va ls.length ca, .slice vb lp.length cb] 29)) w.heap.size va ca vb cb ls lp :=
  ⟨Sha.row_new w [.slice va ls.length ca, .slice vb lp.length cb] 29, hs.below (bself _), hp.below (bself _), by simp⟩
/-- A box that holds what a call told. -/
structure BoxT (W : World) (g : Nat) (va : Option Addr) (ca : Nat) (vb : Option Addr) (cb : Nat) (ls : List ByteArray) (lp : List (Int × ByteArray)) (t : ByteArray) (c : Int) : Prop where
  b : BoxO W g (.slice va ls.length ca) (.slice vb lp.length cb) t c
  s : Strs W (.slice va ls.length ca) ls
  p : Pends W (.slice vb lp.length cb) lp
  z : g < W.heap.size
theorem BoxT.below {W W' : World} {g : Nat} {va : Option Addr} {ca : Nat} {vb : Option Addr} {cb : Nat} {ls : List ByteArray} {lp : List (Int × ByteArray)} {t : ByteArray} {c : Int} (h : BoxT W g va ca vb cb ls lp t c) (hb : Below W.heap.size W W') : BoxT W' g va ca vb cb ls lp t c :=
  ⟨h.b.below hb h.z, h.s.below hb, h.p.below hb, Nat.lt_of_lt_of_le h.z hb.size⟩
theorem boxT_new {w : World} {va : Option Addr} {ca : Nat} {vb : Option Addr} {cb : Nat} {ls : List ByteArray} {lp : List (Int × ByteArray)} (t : ByteArray) (c : Int) (hs : Strs w (.slice va ls.length ca) ls) (hp : Pends w (.slice vb lp.length cb) lp) : BoxT (w.alloc (.cells #[.slice va ls.length ca, .slice vb lp.length cb, .string t, .int .i64 c] 47)) w.heap.size va ca vb cb ls lp t c :=
  ⟨boxO_at w _ _ t c, hs.below (bself _), hp.below (bself _), by simp⟩
/-- All that the walk keeps, in one world. -/
structure Six (w V : World) (g5 g8 g9 g11 g12 g14 : Nat) (dA xA eA cA fA gA dB xB eB cB fB gB : Option Addr) (da xa ea ca fa ga db xb eb cb fb gb : Nat) (dl xl el cl fl gl : List ByteArray) (dp xp ep cp fp gp : List (Int × ByteArray)) (xt ft : ByteArray) (xc fc : Int) (vk : Value) (kp : List Int) : Prop where
  B : Below w.heap.size w V
  d : BoxD V g5 dA da dB db dl dp
  x : BoxT V g8 xA xa xB xb xl xp xt xc
  e : BoxD V g9 eA ea eB eb el ep
  c : BoxD V g11 cA ca cB cb cl cp
  f : BoxT V g12 fA fa fB fb fl fp ft fc
  g : BoxD V g14 gA ga gB gb gl gp
  k : Ints V vk kp
theorem six_mk {w V : World} {g5 g8 g9 g11 g12 g14 : Nat} {dA xA eA cA fA gA dB xB eB cB fB gB : Option Addr} {da xa ea ca fa ga db xb eb cb fb gb : Nat} {dl xl el cl fl gl : List ByteArray} {dp xp ep cp fp gp : List (Int × ByteArray)} {xt ft : ByteArray} {xc fc : Int} {vk : Value} {kp : List Int}
    (B : Below w.heap.size w V) (d : BoxD V g5 dA da dB db dl dp) (x : BoxT V g8 xA xa xB xb xl xp xt xc) (e : BoxD V g9 eA ea eB eb el ep) (c : BoxD V g11 cA ca cB cb cl cp) (f : BoxT V g12 fA fa fB fb fl fp ft fc) (g : BoxD V g14 gA ga gB gb gl gp) (k : Ints V vk kp) :
    Six w V g5 g8 g9 g11 g12 g14 dA xA eA cA fA gA dB xB eB cB fB gB da xa ea ca fa ga db xb eb cb fb gb dl xl el cl fl gl dp xp ep cp fp gp xt ft xc fc vk kp := ⟨B, d, x, e, c, f, g, k⟩
theorem Six.below {w V W : World} {g5 g8 g9 g11 g12 g14 : Nat} {dA xA eA cA fA gA dB xB eB cB fB gB : Option Addr} {da xa ea ca fa ga db xb eb cb fb gb : Nat} {dl xl el cl fl gl : List ByteArray} {dp xp ep cp fp gp : List (Int × ByteArray)} {xt ft : ByteArray} {xc fc : Int} {vk : Value} {kp : List Int}
    (h : Six w V g5 g8 g9 g11 g12 g14 dA xA eA cA fA gA dB xB eB cB fB gB da xa ea ca fa ga db xb eb cb fb gb dl xl el cl fl gl dp xp ep cp fp gp xt ft xc fc vk kp) (hb : Below V.heap.size V W) :
    Six w W g5 g8 g9 g11 g12 g14 dA xA eA cA fA gA dB xB eB cB fB gB da xa ea ca fa ga db xb eb cb fb gb dl xl el cl fl gl dp xp ep cp fp gp xt ft xc fc vk kp := ⟨bT h.B hb, h.d.below hb, h.x.below hb, h.e.below hb, h.c.below hb, h.f.below hb, h.g.below hb, h.k.below hb⟩
theorem six_cells {w V W : World} {g5 g8 g9 g11 g12 g14 : Nat} {dA xA eA cA fA gA dB xB eB cB fB gB : Option Addr} {da xa ea ca fa ga db xb eb cb fb gb : Nat} {dl xl el cl fl gl : List ByteArray} {dp xp ep cp fp gp : List (Int × ByteArray)} {xt ft : ByteArray} {xc fc : Int} {vk : Value} {kp : List Int}
    (h : Six w V g5 g8 g9 g11 g12 g14 dA xA eA cA fA gA dB xB eB cB fB gB da xa ea ca fa ga db xb eb cb fb gb dl xl el cl fl gl dp xp ep cp fp gp xt ft xc fc vk kp) (hb : Below V.heap.size V W) :
    W.cell? ⟨g5, 0, none⟩ = some (.slice dA dl.length da) ∧ W.cell? ⟨g5, 1, none⟩ = some (.slice dB dp.length db) ∧
    W.cell? ⟨g8, 0, none⟩ = some (.slice xA xl.length xa) ∧ W.cell? ⟨g8, 1, none⟩ = some (.slice xB xp.length xb) ∧ W.cell? ⟨g8, 2, none⟩ = some (.string xt) ∧ W.cell? ⟨g8, 3, none⟩ = some (.int .i64 xc) ∧
    W.cell? ⟨g9, 0, none⟩ = some (.slice eA el.length ea) ∧ W.cell? ⟨g9, 1, none⟩ = some (.slice eB ep.length eb) ∧
    W.cell? ⟨g11, 0, none⟩ = some (.slice cA cl.length ca) ∧ W.cell? ⟨g11, 1, none⟩ = some (.slice cB cp.length cb) ∧
    W.cell? ⟨g12, 0, none⟩ = some (.slice fA fl.length fa) ∧ W.cell? ⟨g12, 1, none⟩ = some (.slice fB fp.length fb) ∧ W.cell? ⟨g12, 2, none⟩ = some (.string ft) ∧ W.cell? ⟨g12, 3, none⟩ = some (.int .i64 fc) ∧
    W.cell? ⟨g14, 0, none⟩ = some (.slice gA gl.length ga) ∧ W.cell? ⟨g14, 1, none⟩ = some (.slice gB gp.length gb) := by
  have h := h.below hb
  obtain ⟨a1, a2, _⟩ := h.d.b.cells
  obtain ⟨b1, b2, b3, b4⟩ := h.x.b.cells
  obtain ⟨c1, c2, _⟩ := h.e.b.cells
  obtain ⟨d1, d2, _⟩ := h.c.b.cells
  obtain ⟨e1, e2, e3, e4⟩ := h.f.b.cells
  obtain ⟨f1, f2, _⟩ := h.g.b.cells
  exact ⟨a1, a2, b1, b2, b3, b4, c1, c2, d1, d2, e1, e2, e3, e4, f1, f2⟩
end Go.Proofs.YtnfidmjplhmblaaDoor.Disk

/- A read of a sector that is there; cells of lists. -/
namespace Go.Proofs.YtnfidmjplhmblaaDoor.Disk
open Go.RowKit Go.Proofs.YtnfidmjplhmblaaDoor.Mem Go.Proofs.YtnfidmjplhmblaaDoor.Harn Go.Proofs.YtnfidmjplhmblaaDoor.DiskP

theorem fldO (a b : Value) (t : ByteArray) (c : Int) (w : World) : (Instr.field 47 (.agg #[a, b, .string t, .int .i64 c]) 1).run Tryd.prog w = .ok (.string t) w := by kernel_rfl
theorem specRead_at (vs vp : Value) (ls : List ByteArray) (lp : List (Int × ByteArray)) (k : Nat) (q : ByteArray) (w : World) (hr : rightB ls lp = true) (hk : k < ls.length) (hq : readD ls lp k = q) (hs : Strs w vs ls) (hp : Pends w vp lp) :
    Calls Tryd.prog 18 #[.agg #[vs, vp], .int .i64 (k : Int)] w fun e w' => ∃ us up, e = .returned (outV us up q 0) ∧ Below w.heap.size w w' := by
  have hf := fits_right hr
  have h := specRead_any vs vp ls lp (k : Int) w hs hp hf.n hf.m hf.t hf.y
  rw [readO_ok hr hk, hq] at h
  exact h.mono fun _ _ ⟨us, up, h1, _, h3⟩ => ⟨us, up, h1, h3⟩
theorem implRead_at (vs vp : Value) (ls : List ByteArray) (lp : List (Int × ByteArray)) (k : Nat) (q : ByteArray) (w : World) (hr : rightB ls lp = true) (hk : k < ls.length) (hq : readD ls lp k = q) (hs : Strs w vs ls) (hp : Pends w vp lp) :
    Calls Tryd.prog 42 #[.agg #[vs, vp], .int .i64 (k : Int)] w fun e w' => ∃ us up, e = .returned (outV us up q 0) ∧ Below w.heap.size w w' := by
  have hf := fits_right hr
  have h := implRead_any vs vp ls lp (k : Int) w hs hp hf.n hf.m hf.t hf.y
  rw [readO_ok hr hk, hq] at h
  exact h.mono fun _ _ ⟨us, up, h1, _, h3⟩ => ⟨us, up, h1, h3⟩
theorem strs_at {W : World} {a : Option Addr} {cap : Nat} {l : List ByteArray} (h : Strs W (.slice a l.length cap) l) (j : Nat) (hj : j < l.length) : ∃ b o, a = some ⟨b, o, none⟩ ∧ W.cell? ⟨b, o + j, none⟩ = some (.string l[j]) := by
  obtain ⟨a', c', hv, hc⟩ := h
  cases hv
  exact hc j hj
theorem pends_at {W : World} {a : Option Addr} {cap : Nat} {l : List (Int × ByteArray)} (h : Pends W (.slice a l.length cap) l) (j : Nat) (hj : j < l.length) : ∃ b o, a = some ⟨b, o, none⟩ ∧ W.cell? ⟨b, o + j * 2, none⟩ = some (.int .i64 l[j].1) ∧ W.cell? ⟨b, o + j * 2 + 1, none⟩ = some (.string l[j].2) := by
  obtain ⟨a', c', hv, hc⟩ := h
  cases hv
  exact hc j hj
theorem readD_size {ls : List ByteArray} {lp : List (Int × ByteArray)} (h : rightB ls lp = true) (k : Nat) (hk : k < ls.length) : (readD ls lp k).size ≤ 64 := by
  obtain ⟨_, _, _, h4, h5⟩ := (right_iff ls lp).1 h
  cases e : lastOf lp (k : Int) with
  | none => rw [readD_none e hk]; exact h4 _ (List.getElem_mem hk)
  | some y => rw [readD_some e]; exact (h5 y (lastOf_mem e).1).2.2
end Go.Proofs.YtnfidmjplhmblaaDoor.Disk

/- Where a side of an area begins; the lesser of two numbers: the model. -/
namespace Go.Proofs.YtnfidmjplhmblaaDoor.Disk
open Go.RowKit Go.Proofs.YtnfidmjplhmblaaDoor.Mem Go.Proofs.YtnfidmjplhmblaaDoor.Harn Go.Proofs.YtnfidmjplhmblaaDoor.DiskP

theorem specMin_any (a b c : Int) (w : World) (h : c = if a < b then a else b) : Calls Tryd.prog 20 #[.int .i64 a, .int .i64 b] w fun e w' => e = .returned (.int .i64 c) ∧ w = w' := by
  subst h
  by_cases hl : a < b
  · rw [if_pos hl]
    go_enter Tryd.func20, Tryd.ntmps20
    go_wp2
    go_ret
    exact ⟨rfl, rfl⟩
  · rw [if_neg hl]
    go_enter Tryd.func20, Tryd.ntmps20
    go_wp2
    go_ret
    exact ⟨rfl, rfl⟩

set_option maxRecDepth 100000 in
set_option maxHeartbeats 1000000 in
theorem specFirst_any (vs vp : Value) (ls : List ByteArray) (s : Nat) (w : World) (hs : Strs w vs ls) (h0 : 1 ≤ ls.length) (h64 : ls.length ≤ 64) (h1 : s ≤ 1) :
    Calls Tryd.prog 19 #[.agg #[vs, vp], .int .i64 (s : Int)] w fun e w' => e = .returned (.int .i64 ((1 + s * halfN ls : Nat) : Int)) ∧ Below w.heap.size w w' := by
  have h31 := halfN_le h64
  have HB0 : Hid (Below w.heap.size w (w.alloc (.cells #[vs, vp] 29))) := bself _
  have K : Hid (Calls Tryd.prog 37 #[.agg #[vs, vp]] (w.alloc (.cells #[vs, vp] 29)) fun e w' => e = .returned (.int .i64 (halfN ls : Nat)) ∧ Below (w.alloc (.cells #[vs, vp] 29)).heap.size (w.alloc (.cells #[vs, vp] 29)) w') := specHalf_any vs vp ls _ (hs.below HB0.out) h0 (by omega)
  clear hs
  generalize halfN ls = hn at *
  have hc : s = 0 ∨ s = 1 := by omega
  rcases hc with rfl | rfl
  all_goals
    go_enter Tryd.func19, Tryd.ntmps19
    go_wp2_with (go_at_call 37; refine K.out.mono ?_; rintro e w1 ⟨rfl, hb1⟩; have HB1 : Hid _ := hb1; clear hb1)
    go_ret
    exact ⟨by simp, bT HB0.out HB1.out⟩
end Go.Proofs.YtnfidmjplhmblaaDoor.Disk

/- What the program's DiskWrite answers. -/
namespace Go.Proofs.YtnfidmjplhmblaaDoor.Disk
open Go.RowKit Go.Proofs.YtnfidmjplhmblaaDoor.Mem Go.Proofs.YtnfidmjplhmblaaDoor.Harn Go.Proofs.YtnfidmjplhmblaaDoor.DiskP

theorem step_one {w : World} {ops : Array Oper} {o : Oper} {a : Act} {K : Act → World → Prop} {Q : Exit → Act → World → Prop} {E : Prop} (hgd : o.guard = none) (s x : Operand)
    (ho : o.op = .call { callee := .builtin .append, args := #[s, x], argTypes := #[27, 27] }) (base g c b : Nat) (lp : List (Int × ByteArray)) (y : Int) (t : ByteArray) (hs : a.eval s = .slice (some ⟨g, 0, none⟩) lp.length c) (hx : a.eval x = .slice (some ⟨b, 0, none⟩) 1 1)
    (h : PendsAt w g 0 lp) (hw : c = lp.length ∨ w.ownsRow base 68 2 (.slice (some ⟨g, 0, none⟩) lp.length c) lp.length (pcells lp)) (hbase : base ≤ w.heap.size) (h0 : w.cell? ⟨b, 0, none⟩ = some (.int .i64 y)) (h1 : w.cell? ⟨b, 1, none⟩ = some (.string t)) (hn : lp.length ≤ 1100000)
    (hK : ∀ g' cap w', PendsAt w' g' 0 (lp ++ [(y, t)]) → (g' = g ∨ g' ≥ w.heap.size) → g' < w'.heap.size → Only (fun k => k = g) w w' → OwnP w' base (.slice (some ⟨g', 0, none⟩) (lp.length + 1) cap) (lp ++ [(y, t)]) → K (a.put o.dst (.slice (some ⟨g', 0, none⟩) (lp.length + 1) cap)) w') :
    if Region.wanted o (yielded ops a.tmps) = true then Oper.wp Tryd.prog o a w K Q else E := by
  obtain ⟨g', cap, w', hr, a1, a2, a3, a4, a5⟩ := app_any o.type base g c b lp y t w h hw hbase h0 h1 hn
  exact step_app hgd s x _ ho _ _ _ w' hs hx hr (hK g' cap w' a1 a2 a3 a4 a5)

theorem step_join {w : World} {ops : Array Oper} {o : Oper} {a : Act} {K : Act → World → Prop} {Q : Exit → Act → World → Prop} {E : Prop} (hgd : o.guard = none) (s x : Operand)
    (ho : o.op = .call { callee := .value (.func 46), args := #[s, x], argTypes := #[9, 9] }) (u t : ByteArray) (hs : a.eval s = .string u) (hx : a.eval x = .string t)
    (hc : Calls Tryd.prog 46 #[.string u, .string t] w fun e w' => e = .returned (.string t) ∧ Below w.heap.size w w')
    (hK : ∀ w', Below w.heap.size w w' → K (a.put o.dst (.string t)) w') :
    if Region.wanted o (yielded ops a.tmps) = true then Oper.wp Tryd.prog o a w K Q else E := by
  have hw : Region.wanted o (yielded ops a.tmps) = true := by simp [Region.wanted, hgd]
  rw [if_pos hw]
  have he : (execOp a.eval o).run Tryd.prog w = .ok (.enter 46 #[.string u, .string t]) w := by
    have hf : a.eval (.func 46) = .func (.func 46) #[] #[] := rfl
    generalize a.eval = ev at *
    simp [execOp, ho, resolve, invoke, hs, hx, hf, go_sem]
  unfold Oper.wp
  rw [he, Oper.upon_enter]
  refine hc.mono ?_
  rintro e w' ⟨rfl, hb⟩
  exact hK w' hb

end Go.Proofs.YtnfidmjplhmblaaDoor.Disk
