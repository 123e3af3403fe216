/- The law on DiskNew. -/
import Derived.Test.YtgjbfngooiiceaaSpecNew
import Derived.Test.YtgjbfngooiiceaaImplRead
import Derived.Test.YtgjbfngooiiceaaLawRight
namespace Go.Proofs.Ytgjbfngooiiceaa.Disk
open Go.RowKit Go.Proofs.Ytgjbfngooiiceaa.Mem Go.Proofs.Ytgjbfngooiiceaa.Harn Go.Proofs.Ytgjbfngooiiceaa.DiskP Go.Proofs.Ytgjbfngooiiceaa.Mark

theorem length_newD (n : Int) : (newD n).length ≤ 64 := by
  unfold newD
  split
  · simp; omega
  · simp
theorem Box2.only {p : Nat → Prop} {W W' : World} {g : Nat} {vs vp : Value} (h : Box2 W g vs vp) (hg : Only p W W') (hp : ¬ p g) : Box2 W' g vs vp := hg.row h hp
theorem box2_at (w : World) (vs vp : Value) : Box2 (w.alloc (.cells #[vs, vp] 30)) w.heap.size vs vp := Sha.row_new w [vs, vp] 30
theorem Box2.alloc {W : World} {g : Nat} {vs vp : Value} (h : Box2 W g vs vp) (o : Obj) : Box2 (W.alloc o) g vs vp := Sha.row_alloc h o

set_option maxRecDepth 100000 in
set_option maxHeartbeats 2000000 in
theorem new_law (n : Int) (w : World) (_hn : (Lit.int .i64 n).wf = true) :
    Calls Try.prog 4 #[.int .i64 n] w fun e w' => e = .returned (.bool true) ∧ Below w.heap.size w w' := by
  obtain ⟨lp, hlp⟩ : ∃ lp, lp = ([] : List (Int × ByteArray)) := ⟨_, rfl⟩
  have hl := length_newD n
  have hm : lp.length ≤ 64 := by rw [hlp]; simp
  have HSP : Hid (∀ W, Calls Try.prog 14 #[.int .i64 n] W fun e w' => ToldD W (newD n) lp e w') := fun W => by rw [hlp]; exact specNew_any n W
  have HIM : Hid (∀ W, Calls Try.prog 15 #[.int .i64 n] W fun e w' => ToldD W (newD n) lp e w') := fun W => by rw [hlp]; exact implNew_any n W
  generalize newD n = ls at *
  clear hlp
  go_enter Try.func4, Try.ntmps4
  go_wp2_with fail
  refine (HSP.out _).mono ?_
  rintro e w1 ⟨us, up, rfl, ho1, hb1⟩
  obtain ⟨va, ca, vb, cb, rfl, rfl⟩ := ho1.shape
  have hz1 := hb1.size
  have HO1 : Hid _ := ho1
  have HB1 : Hid _ := hb1
  clear ho1 hb1
  go_wp2_with fail
  refine (HIM.out _).mono ?_
  rintro e w2 ⟨us, up, rfl, ho2, hb2⟩
  obtain ⟨va2, ca2, vb2, cb2, rfl, rfl⟩ := ho2.shape
  have hz2 := hb2.size
  simp only [World.size_alloc] at hz2 ho2
  have HB2 : Hid (Below w.heap.size w (w2.alloc (.cells #[.slice va2 ls.length ca2, .slice vb2 lp.length cb2] 30))) := bA (bT (bA HB1.out _) hb2) _
  have HA2 : Hid (Own (w2.alloc (.cells #[.slice va2 ls.length ca2, .slice vb2 lp.length cb2] 30)) w.heap.size w1.heap.size (.slice va ls.length ca) (.slice vb lp.length cb) ls lp) := Own.below (Own.below (Own.below HO1.out ((Below.refl _ _).alloc (Nat.le_refl _) _)) hb2) ((Below.refl _ _).alloc (Nat.le_refl _) _)
  have HC2 : Hid (Own (w2.alloc (.cells #[.slice va2 ls.length ca2, .slice vb2 lp.length cb2] 30)) (w1.heap.size + 1) w2.heap.size (.slice va2 ls.length ca2) (.slice vb2 lp.length cb2) ls lp) := Own.below ho2 ((Below.refl _ _).alloc (Nat.le_refl _) _)
  have HXA : Hid (Box2 (w2.alloc (.cells #[.slice va2 ls.length ca2, .slice vb2 lp.length cb2] 30)) w1.heap.size (.slice va ls.length ca) (.slice vb lp.length cb)) := Box2.alloc (Box2.below (box2_at w1 _ _) hb2 (by simp)) _
  have HXB : Hid (Box2 (w2.alloc (.cells #[.slice va2 ls.length ca2, .slice vb2 lp.length cb2] 30)) w2.heap.size (.slice va2 ls.length ca2) (.slice vb2 lp.length cb2)) := box2_at w2 _ _
  clear ho2 hb2
  obtain ⟨c0, c1, _⟩ := Box2.cells HXA.out
  go_wp2_with fail
  refine (eqDisk_any _ _ _ _ ls lp _ (Own.strs HC2.out) (Own.pends HC2.out) (Own.strs HA2.out) (Own.pends HA2.out) (by omega) (by omega)).mono ?_
  rintro e w3 ⟨rfl, hb3⟩
  have hz3 := hb3.size
  simp at hz3
  have HB3 : Hid (Below w.heap.size w w3) := bT HB2.out hb3
  have HA3 : Hid _ := Own.below HA2.out hb3
  have HC3 : Hid _ := Own.below HC2.out hb3
  have HXA3 : Hid _ := Box2.below HXA.out hb3 (by simp; omega)
  have HXB3 : Hid _ := Box2.below HXB.out hb3 (by simp)
  clear hb3 c0 c1 HB2 HA2 HC2 HXA HXB
  obtain ⟨c0, c1, _⟩ := Box2.cells HXB3.out
  go_wp2_with fail
  refine (markDisk_own (w1.heap.size + 1) w2.heap.size 1 _ _ ls lp _ HC3.out (by omega) (by omega) (by omega) (by omega)).mono ?_
  rintro e w4 ⟨rfl, ho4, hg4⟩
  have hz4 := hg4.size
  have HC4 : Hid _ := ho4
  have HA4 : Hid _ := Own.only HA3.out hg4 (fun k h1 h2 h3 => by omega)
  have HB4 : Hid (Below w.heap.size w w4) := hg4.below HB3.out (by omega) (fun k h1 h2 => by omega)
  have HXA4 : Hid _ := Box2.only HXA3.out hg4 (fun h => by omega)
  have HXB4 : Hid _ := Box2.only HXB3.out hg4 (fun h => by omega)
  clear ho4 hg4 c0 c1 HB3 HA3 HC3 HXA3 HXB3
  obtain ⟨c0, c1, _⟩ := Box2.cells HXB4.out
  go_wp2_with fail
  refine (heldDisk_own (w1.heap.size + 1) w2.heap.size 1 ls.length lp.length _ _ _ HC4.out (by omega) (by omega) (by omega)).mono ?_
  rintro e w5 ⟨rfl, hb5⟩
  have hz5 := hb5.size
  have HC5 : Hid _ := Own.below HC4.out hb5
  have HA5 : Hid _ := Own.below HA4.out hb5
  have HB5 : Hid (Below w.heap.size w w5) := bT HB4.out hb5
  have HXA5 : Hid _ := Box2.below HXA4.out hb5 (by omega)
  have HXB5 : Hid _ := Box2.below HXB4.out hb5 (by omega)
  clear hb5 c0 c1 HB4 HA4 HC4 HXA4 HXB4
  go_wp2_with fail
  refine (HIM.out _).mono ?_
  rintro e w6 ⟨us, up, rfl, ho6, hb6⟩
  obtain ⟨va6, ca6, vb6, cb6, rfl, rfl⟩ := ho6.shape
  have hz6 := hb6.size
  have hq : Below w6.heap.size w6 (w6.alloc (.cells #[.slice va6 ls.length ca6, .slice vb6 lp.length cb6] 30)) := (Below.refl _ _).alloc (Nat.le_refl _) _
  have HD6 : Hid _ := Own.below ho6 hq
  have HC6 : Hid _ := Own.below (Own.below HC5.out hb6) hq
  have HA6 : Hid _ := Own.below (Own.below HA5.out hb6) hq
  have HB6 : Hid (Below w.heap.size w (w6.alloc (.cells #[.slice va6 ls.length ca6, .slice vb6 lp.length cb6] 30))) := bA (bT HB5.out hb6) _
  have HXA6 : Hid _ := Box2.alloc (Box2.below HXA5.out hb6 (by omega)) (.cells #[.slice va6 ls.length ca6, .slice vb6 lp.length cb6] 30)
  have HXB6 : Hid _ := Box2.alloc (Box2.below HXB5.out hb6 (by omega)) (.cells #[.slice va6 ls.length ca6, .slice vb6 lp.length cb6] 30)
  clear ho6 hb6 hq HB5 HA5 HC5 HXA5 HXB5
  obtain ⟨c0, c1, _⟩ := Box2.cells HXA6.out
  go_wp2_with fail
  refine (eqDisk_any _ _ _ _ ls lp _ (Own.strs HD6.out) (Own.pends HD6.out) (Own.strs HA6.out) (Own.pends HA6.out) (by omega) (by omega)).mono ?_
  rintro e w7 ⟨rfl, hb7⟩
  have hz7 := hb7.size
  simp at hz7
  have HC7 : Hid _ := Own.below HC6.out hb7
  have HB7 : Hid (Below w.heap.size w w7) := bT HB6.out hb7
  have HXB7 : Hid _ := Box2.below HXB6.out hb7 (by simp; omega)
  clear hb7 c0 c1 HB6 HA6 HC6 HXA6 HXB6 HD6
  obtain ⟨c0, c1, _⟩ := Box2.cells HXB7.out
  go_wp2_with fail
  refine (heldDisk_own (w1.heap.size + 1) w2.heap.size 1 ls.length lp.length _ _ _ HC7.out (by omega) (by omega) (by omega)).mono ?_
  rintro e w8 ⟨rfl, hb8⟩
  have HB8 : Hid (Below w.heap.size w w8) := bT HB7.out hb8
  clear hb8 c0 c1
  go_wp2_with fail
  go_ret
  exact ⟨rfl, HB8.out⟩
end Go.Proofs.Ytgjbfngooiiceaa.Disk
