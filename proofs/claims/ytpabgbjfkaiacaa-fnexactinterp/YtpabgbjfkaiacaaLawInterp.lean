/- The law on Interp. -/
import Derived.Test.YtpabgbjfkaiacaaSpecInterp
import Derived.Test.YtpabgbjfkaiacaaImplInterp
namespace Go.Proofs.Ytpabgbjfkaiacaa.Gf
open Go.RowKit Go.Proofs.Ytpabgbjfkaiacaa.Mem Go.Proofs.Ytpabgbjfkaiacaa.Harn

set_option maxRecDepth 100000 in
set_option maxHeartbeats 1000000 in
theorem interp_law (vx : Value) (xs : List Int) (vy : Value) (ys : List Int) (t : Int) (w : World) (hx : Ints w vx xs) (hxn : xs.length ≤ maxLen) (_ : ∀ x ∈ xs, (Lit.int .i64 x).wf = true) (hy : Ints w vy ys) (hyn : ys.length ≤ maxLen) (_ : ∀ x ∈ ys, (Lit.int .i64 x).wf = true) (_ : (Lit.int .i64 t).wf = true) :
    Calls Try.prog 6 #[vx, vy, .int .i64 t] w fun e w' => e = .returned (.bool true) ∧ Below w.heap.size w w' := by
  have HX : Hid (Ints w vx xs) := hx
  have HY : Hid (Ints w vy ys) := hy
  obtain ⟨a1, c1, rfl, _⟩ := hx
  obtain ⟨a2, c2, rfl, _⟩ := hy
  unfold maxLen at hxn hyn
  by_cases h1 : 1048576 < xs.length
  · have p1 : (1048576 : Int) < (xs.length : Int) := by omega
    go_enter Try.func6, Try.ntmps6
    go_wp2
    go_ret
    exact ⟨rfl, Below.refl _ _⟩
  by_cases h2 : 1048576 < ys.length
  · have p1 : ¬ (1048576 : Int) < (xs.length : Int) := by omega
    have p2 : (1048576 : Int) < (ys.length : Int) := by omega
    go_enter Try.func6, Try.ntmps6
    go_wp2
    go_ret
    exact ⟨rfl, Below.refl _ _⟩
  have p1 : ¬ (1048576 : Int) < (xs.length : Int) := by omega
  have p2 : ¬ (1048576 : Int) < (ys.length : Int) := by omega
  have HT1 : Hid (∀ W, Below w.heap.size w W → Calls Try.prog 16 #[.slice a1 xs.length c1] W fun e w' => e = .returned (.slice (some ⟨W.heap.size, 0, none⟩) xs.length xs.length) ∧ IntsAt w' W.heap.size 0 xs ∧ Below W.heap.size W w') := fun W hW => (toInts_any _ xs W (Ints.below HX.out hW) (by omega)).mono fun e w' hh => ⟨hh.1, row_ints hh.2.1, hh.2.2.1⟩
  have HT2 : Hid (∀ W, Below w.heap.size w W → Calls Try.prog 16 #[.slice a2 ys.length c2] W fun e w' => e = .returned (.slice (some ⟨W.heap.size, 0, none⟩) ys.length ys.length) ∧ IntsAt w' W.heap.size 0 ys ∧ Below W.heap.size W w') := fun W hW => (toInts_any _ ys W (Ints.below HY.out hW) (by omega)).mono fun e w' hh => ⟨hh.1, row_ints hh.2.1, hh.2.2.1⟩
  have hxn2 : xs.length ≤ 1100000 := by omega
  have hyn2 : ys.length ≤ 1100000 := by omega
  clear h1 h2 hxn hyn
  go_enter Try.func6, Try.ntmps6
  go_wp2_with fail
  refine (HT1.out _ (Below.refl _ _)).mono ?_
  rintro e w1 ⟨rfl, i1, hb1⟩
  have HB1 : Hid (Below w.heap.size w w1) := hb1
  have HI1 : Hid _ := i1
  clear i1 hb1
  go_wp2_with fail
  refine (HT2.out _ HB1.out).mono ?_
  rintro e w2 ⟨rfl, i2, hb2⟩
  have HB2 : Hid (Below w.heap.size w w2) := bstep HB1.out hb2
  have HI2 : Hid _ := i2
  have HJ1 : Hid _ := IntsAt.below HI1.out hb2
  clear i2 hb2 HI1 HB1
  go_wp2_with fail
  refine (specInterp_any _ _ xs ys t _ (IntsAt.ints HJ1.out _) (IntsAt.ints HI2.out _) hxn2 hyn2).mono ?_
  rintro e w3 ⟨rfl, hb3⟩
  have HB3 : Hid (Below w.heap.size w w3) := bstep HB2.out hb3
  clear hb3 HB2 HJ1 HI2
  go_wp2_with fail
  refine (HT1.out _ HB3.out).mono ?_
  rintro e w4 ⟨rfl, i4, hb4⟩
  have HB4 : Hid (Below w.heap.size w w4) := bstep HB3.out hb4
  have HX4 : Hid _ := i4
  clear i4 hb4 HB3
  go_wp2_with fail
  refine (HT2.out _ HB4.out).mono ?_
  rintro e w5 ⟨rfl, i5, hb5⟩
  have HB5 : Hid (Below w.heap.size w w5) := bstep HB4.out hb5
  have HX5 : Hid _ := IntsAt.below HX4.out hb5
  have HY5 : Hid _ := i5
  clear i5 hb5 HB4 HX4
  go_wp2_with fail
  refine (implInterp_any _ _ xs ys t _ (IntsAt.ints HX5.out _) (IntsAt.ints HY5.out _) (by rintro _ _ _ h; injection h with _ h1 h2; omega)).mono ?_
  rintro e w6 ⟨rfl, hb6⟩
  have HB6 : Hid (Below w.heap.size w w6) := bstep HB5.out hb6
  have HX6 : Hid _ := IntsAt.below HX5.out hb6
  have HY6 : Hid _ := IntsAt.below HY5.out hb6
  clear hb6 HB5 HX5 HY5
  go_wp2_with fail
  refine (HT1.out _ HB6.out).mono ?_
  rintro e w7 ⟨rfl, i7, hb7⟩
  have HB7 : Hid (Below w.heap.size w w7) := bstep HB6.out hb7
  have HX7 : Hid _ := IntsAt.below HX6.out hb7
  have HY7 : Hid _ := IntsAt.below HY6.out hb7
  have HJ7 : Hid _ := i7
  clear i7 hb7 HB6 HX6 HY6
  go_wp2_with fail
  refine (eqInts_any _ _ xs _ (IntsAt.ints HX7.out _) (IntsAt.ints HJ7.out _) hxn2).mono ?_
  rintro e w8 ⟨rfl, n8, rfl⟩
  have HB8 : Hid (Below w.heap.size w (w7.drewN n8)) := Sha.bel_drewN HB7.out n8
  have HY8 : Hid _ := IntsAt.below HY7.out (Sha.bel_drewN (Below.refl _ w7) n8)
  go_wp2_with fail
  refine (HT2.out _ HB8.out).mono ?_
  rintro e w9 ⟨rfl, i9, hb9⟩
  have HB9 : Hid (Below w.heap.size w w9) := bstep HB8.out hb9
  have HY9 : Hid _ := IntsAt.below HY8.out hb9
  have HJ9 : Hid _ := i9
  clear i9 hb9 HB8
  go_wp2_with fail
  refine (eqInts_any _ _ ys _ (IntsAt.ints HY9.out _) (IntsAt.ints HJ9.out _) hyn2).mono ?_
  rintro e w10 ⟨rfl, n10, rfl⟩
  have HB10 : Hid (Below w.heap.size w (w9.drewN n10)) := Sha.bel_drewN HB9.out n10
  go_wp2
  go_ret
  exact ⟨rfl, HB10.out⟩
end Go.Proofs.Ytpabgbjfkaiacaa.Gf
