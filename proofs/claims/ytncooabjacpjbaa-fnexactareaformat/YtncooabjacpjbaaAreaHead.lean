/- The head of an area, as it is sealed: the program and the model. -/
import Derived.Test.YtncooabjacpjbaaLawBase
import Derived.Test.YtncooabjacpjbaaPutNum
import Derived.Test.YtncooabjacpjbaaSeal
import Derived.Deep.RegionHeld3
namespace Go.Proofs.Ytncooabjacpjbaa.Disk
open Go.RowKit Go.Proofs.Ytncooabjacpjbaa.Mem Go.Proofs.Ytncooabjacpjbaa.Harn Go.Proofs.Ytncooabjacpjbaa.DiskP

/-- The head of a number, a side and a size, sealed. -/
def headB (g s n : Int) : ByteArray := Seal.sealB (PutNum.numB g ++ PutNum.numB s ++ PutNum.numB n)
theorem numB_size (n : Int) : 1 ≤ (PutNum.numB n).size ∧ (PutNum.numB n).size ≤ 10 := by
  have h := PutNum.length_numL n
  have e : (PutNum.numB n).size = (PutNum.numL n).length := by show (PutNum.numL n).toArray.size = _; simp
  rw [e]; exact h
theorem headB_size (g s n : Int) : (headB g s n).size ≤ 34 := by
  have h1 := numB_size g
  have h2 := numB_size s
  have h3 := numB_size n
  have h4 := Four.size_fourB (Crc.crcOf 0 (PutNum.numB g ++ PutNum.numB s ++ PutNum.numB n))
  unfold headB Seal.sealB
  simp only [ByteArray.size_append] at *
  omega

set_option maxRecDepth 100000 in
set_option maxHeartbeats 1000000 in
theorem specHead_any (g s n : Int) (w : World) (hg1 : -9223372036854775808 ≤ g) (hg2 : g ≤ 9223372036854775807) (hs1 : -9223372036854775808 ≤ s) (hs2 : s ≤ 9223372036854775807) (hn1 : -9223372036854775808 ≤ n) (hn2 : n ≤ 9223372036854775807) :
    Calls Try.prog 28 #[.int .i64 g, .int .i64 s, .int .i64 n] w fun e w' => e = .returned (.string (headB g s n)) ∧ Below w.heap.size w w' := by
  have h1 := (numB_size g).2
  have h2 := (numB_size s).2
  have h3 := (numB_size n).2
  have KG : Hid (∀ W, Calls Try.prog 43 #[.int .i64 g] W fun e w' => e = .returned (.string (PutNum.numB g)) ∧ Below W.heap.size W w') := fun W => PutNum.specPutNum_any g W hg1 hg2
  have KS : Hid (∀ W, Calls Try.prog 43 #[.int .i64 s] W fun e w' => e = .returned (.string (PutNum.numB s)) ∧ Below W.heap.size W w') := fun W => PutNum.specPutNum_any s W hs1 hs2
  have KN : Hid (∀ W, Calls Try.prog 43 #[.int .i64 n] W fun e w' => e = .returned (.string (PutNum.numB n)) ∧ Below W.heap.size W w') := fun W => PutNum.specPutNum_any n W hn1 hn2
  have KH : Hid (∀ W, Calls Try.prog 42 #[.string (PutNum.numB g ++ PutNum.numB s ++ PutNum.numB n)] W fun e w' => e = .returned (.string (headB g s n)) ∧ Below W.heap.size W w') := fun W => Seal.specSeal_in _ W (by simp only [ByteArray.size_append]; omega)
  generalize headB g s n = hd at *
  generalize PutNum.numB g = ag at *
  generalize PutNum.numB s = as2 at *
  generalize PutNum.numB n = an at *
  go_enter Try.func28, Try.ntmps28
  go_wp2_with fail
  refine (KG.out _).mono ?_
  rintro e w1 ⟨rfl, hb1⟩
  go_wp2_with fail
  refine (KS.out _).mono ?_
  rintro e w2 ⟨rfl, hb2⟩
  go_wp2_with fail
  refine (KN.out _).mono ?_
  rintro e w3 ⟨rfl, hb3⟩
  go_wp2_with fail
  refine (KH.out _).mono ?_
  rintro e w4 ⟨rfl, hb4⟩
  go_wp2
  go_ret
  exact ⟨rfl, bT (bT (bT hb1 hb2) hb3) hb4⟩

set_option maxRecDepth 100000 in
set_option maxHeartbeats 2000000 in
theorem implSealed_any (g s n : Int) (w : World) (hg1 : -9223372036854775808 ≤ g) (hg2 : g ≤ 9223372036854775807) (hs1 : -9223372036854775808 ≤ s) (hs2 : s ≤ 9223372036854775807) (hn1 : -9223372036854775808 ≤ n) (hn2 : n ≤ 9223372036854775807) :
    Calls Try.prog 46 #[.agg #[.int .i64 g, .int .i64 s, .int .i64 n]] w fun e w' => e = .returned (.string (headB g s n)) ∧ Below w.heap.size w w' := by
  have h1 := (numB_size g).2
  have h2 := (numB_size s).2
  have h3 := (numB_size n).2
  obtain ⟨W0, hW0⟩ : ∃ W0, W0 = w.alloc (.cells #[.int .i64 g, .int .i64 s, .int .i64 n] 57) := ⟨_, rfl⟩
  have HB0 : Hid (Below w.heap.size w W0) := by rw [hW0]; exact bself _
  have HX : Hid (HasRow W0 w.heap.size [.int .i64 g, .int .i64 s, .int .i64 n] 57) := by rw [hW0]; exact Sha.row_new w [.int .i64 g, .int .i64 s, .int .i64 n] 57
  have HZ : Hid (w.heap.size < W0.heap.size) := by rw [hW0]; simp [Hid]
  have KC : Hid (∀ W, Below W0.heap.size W0 W → W.cell? ⟨w.heap.size, 0, none⟩ = some (.int .i64 g) ∧ W.cell? ⟨w.heap.size, 1, none⟩ = some (.int .i64 s) ∧ W.cell? ⟨w.heap.size, 2, none⟩ = some (.int .i64 n)) := fun W hb => by
    have h := Sha.row_below HX.out hb HZ.out
    exact ⟨Mem.cell_of_row h 0, Mem.cell_of_row h 1, Mem.cell_of_row h 2⟩
  have KG : Hid (∀ W, Calls Try.prog 58 #[.int .i64 g] W fun e w' => e = .returned (.string (PutNum.numB g)) ∧ Below W.heap.size W w') := fun W => PutNum.implPutNum_any g W hg1 hg2
  have KS : Hid (∀ W, Calls Try.prog 58 #[.int .i64 s] W fun e w' => e = .returned (.string (PutNum.numB s)) ∧ Below W.heap.size W w') := fun W => PutNum.implPutNum_any s W hs1 hs2
  have KN : Hid (∀ W, Calls Try.prog 58 #[.int .i64 n] W fun e w' => e = .returned (.string (PutNum.numB n)) ∧ Below W.heap.size W w') := fun W => PutNum.implPutNum_any n W hn1 hn2
  have KH : Hid (∀ W, Calls Try.prog 57 #[.string (PutNum.numB g ++ PutNum.numB s ++ PutNum.numB n)] W fun e w' => e = .returned (.string (headB g s n)) ∧ Below W.heap.size W w') := fun W => Seal.implSeal_in _ W (by simp only [ByteArray.size_append]; omega)
  generalize headB g s n = hd at *
  generalize PutNum.numB g = ag at *
  generalize PutNum.numB s = as2 at *
  generalize PutNum.numB n = an at *
  have q1 : ¬ 9223372036854775807 < ag.size + as2.size := by omega
  have q2 : ¬ 9223372036854775807 < ag.size + as2.size + an.size := by omega
  have kQ := KC.out W0 (Below.refl _ _)
  have NB : Hid (Below W0.heap.size W0 W0) := Below.refl _ _
  go_enter Try.func46, Try.ntmps46
  go_wp2_with fail
  rw [← hW0]
  clear hW0
  go_region_held3 (fun W => W.cell? ⟨w.heap.size, 0, none⟩ = some (.int .i64 g) ∧ W.cell? ⟨w.heap.size, 1, none⟩ = some (.int .i64 s) ∧ W.cell? ⟨w.heap.size, 2, none⟩ = some (.int .i64 n))
    (exact kQ)
    (first
      | (go_at_call_of 58 (Value.int .i64 g); refine (KG.out _).mono ?_; rintro e u ⟨rfl, hb⟩; have NB : Hid (Below W0.heap.size W0 u) := bT (by repeat' (first | exact NB.out | apply bD)) hb; clear kQ; have kQ := KC.out _ NB.out; clear hb)
      | (go_at_call_of 58 (Value.int .i64 s); refine (KS.out _).mono ?_; rintro e u ⟨rfl, hb⟩; have NB : Hid (Below W0.heap.size W0 u) := bT (by repeat' (first | exact NB.out | apply bD)) hb; clear kQ; have kQ := KC.out _ NB.out; clear hb)
      | (go_at_call_of 58 (Value.int .i64 n); refine (KN.out _).mono ?_; rintro e u ⟨rfl, hb⟩; have NB : Hid (Below W0.heap.size W0 u) := bT (by repeat' (first | exact NB.out | apply bD)) hb; clear kQ; have kQ := KC.out _ NB.out; clear hb)
      | (go_at_call 57; refine (KH.out _).mono ?_; rintro e u ⟨rfl, hb⟩; have NB : Hid (Below W0.heap.size W0 u) := bT (by repeat' (first | exact NB.out | apply bD)) hb; clear kQ; have kQ := KC.out _ NB.out; clear hb))
  go_wp2
  go_ret
  exact ⟨rfl, bT HB0.out (by repeat' (first | exact NB.out | apply bD))⟩
end Go.Proofs.Ytncooabjacpjbaa.Disk
