/- What the model's DiskRead answers. -/
import Derived.Test.YtkigmpeanllimaaGreatDoorSpecFlush
namespace Go.Proofs.YtkigmpeanllimaaGreatDoor.Disk
open Go.RowKit Go.Proofs.YtkigmpeanllimaaGreatDoor.Mem Go.Proofs.YtkigmpeanllimaaGreatDoor.Harn Go.Proofs.YtkigmpeanllimaaGreatDoor.DiskP

set_option maxRecDepth 100000 in
set_option maxHeartbeats 2000000 in
theorem specRead_any (vs vp : Value) (ls : List ByteArray) (lp : List (Int × ByteArray)) (x : Int) (w : World) (hs : Strs w vs ls) (hp : Pends w vp lp) (h1 : ls.length ≤ 1100000) (h2 : lp.length ≤ 1100000) (h3 : ∀ t ∈ ls, t.size ≤ maxLen) (h4 : ∀ y ∈ lp, y.2.size ≤ maxLen ∧ -9223372036854775808 ≤ y.1 ∧ y.1 ≤ 9223372036854775807) :
    Calls Tryz.prog 39 #[.agg #[vs, vp], .int .i64 x] w fun e w' => Told w (readO ls lp x) e w' := by
  obtain ⟨W0, hW0⟩ : ∃ W0, W0 = (w.alloc (.cells #[vs, vp] 26)).alloc (.cells #[.slice none 0 0, .slice none 0 0, .string { data := #[] }, .int .i64 0] 69) := ⟨_, rfl⟩
  have HB0 : Hid (Below w.heap.size w W0) := by rw [hW0]; exact ((Below.refl _ _).alloc (Nat.le_refl _) _).alloc (by simp) _
  have HX0 : Hid (Box2 W0 w.heap.size vs vp) := by rw [hW0]; exact box2_new w vs vp _
  have HY0 : Hid (Box4 W0 (w.heap.size + 1)) := by rw [hW0]; exact box4_new w _
  have HZ0 : Hid (W0.heap.size = w.heap.size + 2) := by rw [hW0]; simp [Hid]
  have HK : Hid (Calls Tryz.prog 36 #[.agg #[vs, vp]] W0 fun e w' => e = .returned (.bool (rightB ls lp)) ∧ Below W0.heap.size W0 w') := specRight_any vs vp ls lp _ (Strs.below hs HB0.out) (Pends.below hp HB0.out) h1 h2 h3 h4
  have HS : Hid (Strs w vs ls) := hs
  have HP : Hid (Pends w vp lp) := hp
  clear hs hp h3 h4
  cases hr : rightB ls lp with
  | false =>
    rw [hr] at HK
    rw [readO_form hr]
    clear hr
    go_enter Tryz.func39, Tryz.ntmps39
    go_wp2_with fail
    rw [← hW0]
    refine HK.out.mono ?_
    rintro e w1 ⟨rfl, hb1⟩
    have hz1 := hb1.size
    have HB1 : Hid (Below w.heap.size w w1) := bT HB0.out hb1
    have HY1 : Hid _ := Box4.below HY0.out hb1 (by have := HZ0.out; omega)
    have hz2 : w.heap.size + 2 ≤ w1.heap.size := by have := HZ0.out; omega
    clear hb1 hz1 hW0
    go_wp2_with (go_at_call 68; refine (ill_any 1 _).mono ?_; rintro e w2 ⟨rfl, hb2⟩; obtain ⟨m0, m1, m2, m3, mf⟩ := (Box4.below HY1.out hb2 (by omega)).cells; have HB2 : Hid (Below w.heap.size w w2) := bT HB1.out hb2; clear hb2)
    refine bodyPost_ret (v := outV (.slice none 0 0) (.slice none 0 0) ByteArray.empty 1) (by simp [results, Tryz.results39, go_sem, m0, m1, m2, m3]) rfl ⟨_, _, rfl, own_zero _ _ _, ?_⟩
    repeat' (first | exact HB2.out | refine Below.setCell ?_ (by simp) _)
  | true =>
    obtain ⟨r1, r2, r3, r4, r5, r6, r7⟩ := right_pends hr
    have HR : Hid (rightB ls lp = true) := hr
    rw [hr] at HK
    obtain ⟨a1, cap1, rfl, hc1⟩ := HS.out
    obtain ⟨a2, cap2, rfl, hc2⟩ := HP.out
    have HC1 : Hid (∀ j (h : j < ls.length), ∃ b o, a1 = some ⟨b, o, none⟩ ∧ w.cell? ⟨b, o + j, none⟩ = some (.string ls[j])) := hc1
    have HC : Hid (∀ j (h : j < lp.length), ∃ b o, a2 = some ⟨b, o, none⟩ ∧ w.cell? ⟨b, o + j * 2, none⟩ = some (.int .i64 lp[j].1) ∧ w.cell? ⟨b, o + j * 2 + 1, none⟩ = some (.string lp[j].2)) := hc2
    have R1 : Hid (∀ y ∈ lp, 0 ≤ y.1 ∧ y.1 < ls.length) := fun y hy => by have := ((right_iff ls lp).1 hr).2.2.2.2 y hy; unfold okP at this; omega
    clear hr r1 r2 r3 r7 hc2 hc1
    by_cases hx : 0 ≤ x ∧ x < ls.length
    · obtain ⟨k0, rfl⟩ := Int.eq_ofNat_of_zero_le hx.1
      have hk0 : k0 < ls.length := by omega
      rw [readO_ok HR.out hk0]
      have KY : Hid (∀ W, Calls Tryz.prog 65 #[.int .i64 (k0 : Int), .int .i64 0, .int .i64 ((ls.length : Int) - 1)] W fun e w' => e = .returned (.bool true) ∧ W = w') := fun W => (is_yes _ _ _ W (by omega) (by omega)).mono fun _ _ h => ⟨h.1, h.2.symm⟩
      have HRN : Hid (readD ls [] k0 = ls[k0]) := readD_nil ls k0 hk0
      obtain ⟨b1, o1, rfl, s1⟩ := HC1.out k0 hk0
      have p1 : (k0 : Int) < (ls.length : Int) := by omega
      generalize ls[k0] = t0 at *
      clear hx HC1
      go_enter Tryz.func39, Tryz.ntmps39
      go_wp2_with fail
      rw [← hW0]
      refine HK.out.mono ?_
      rintro e w1 ⟨rfl, hb1⟩
      have hz1 : w.heap.size + 2 ≤ w1.heap.size := by have := hb1.size; have := HZ0.out; omega
      have HB1 : Hid (Below w.heap.size w w1) := bT HB0.out hb1
      have HX1 : Hid _ := Box2.below HX0.out hb1 (by have := HZ0.out; omega)
      have HY1 : Hid _ := Box4.below HY0.out hb1 (by have := HZ0.out; omega)
      have q1 : w1.cell? ⟨b1, o1 + k0, none⟩ = some (.string t0) := (HB1.out.cell (World.block_lt_of_cell? w _ s1)).trans s1
      clear hb1 hW0 s1
      obtain ⟨c0, c1, _⟩ := Box2.cells HX1.out
      go_wp2_with (go_at_call 65; refine (KY.out _).mono ?_; rintro e w2 ⟨rfl, rfl⟩)
      go_loop [5, 6] (fun t i => ∃ k : Nat, k ≤ lp.length ∧ i = .int .i64 k ∧ t = .string (readD ls (lp.take k) k0)) (fun _ i => lp.length - (intOf i).toNat)
      case atStart => exact ⟨0, by omega, rfl, by rw [List.take_zero, HRN.out]⟩
      case round =>
        obtain ⟨k, hk, rfl, rfl⟩ := hrel
        by_cases hlt : k < lp.length
        · obtain ⟨b, o, rfl, d1, d2⟩ := HC.out k hlt
          have e1 : w1.cell? ⟨b, o + k * 2, none⟩ = _ := (HB1.out.cell (World.block_lt_of_cell? w _ d1)).trans d1
          have e2 : w1.cell? ⟨b, o + k * 2 + 1, none⟩ = _ := (HB1.out.cell (World.block_lt_of_cell? w _ d2)).trans d2
          have HSN : Hid (readD ls (lp.take (k + 1)) k0 = if lp[k].1 = (k0 : Int) then lp[k].2 else readD ls (lp.take k) k0) := by unfold Hid; rw [List.take_succ_eq_append_getElem hlt, readD_snoc]
          have p2 : (k : Int) < (lp.length : Int) := by omega
          generalize lp[k].2 = t at *
          generalize lp[k].1 = y at *
          generalize readD ls (lp.take k) k0 = t1 at *
          clear d1 d2
          by_cases hy : y = (k0 : Int)
          · rw [if_pos hy] at HSN
            have hye : (y == (k0 : Int)) = true := by simp [hy]
            have HY : Hid (y = (k0 : Int)) := hy
            clear hy
            go_wp2
            go_round
            case rel => exact ⟨k + 1, by omega, by go_num, by rw [HSN.out]⟩
            case measure => simp [intOf]; omega
          · rw [if_neg hy] at HSN
            have hye : (y == (k0 : Int)) = false := by simp [hy]
            go_wp2
            go_round
            case rel => exact ⟨k + 1, by omega, by go_num, by rw [HSN.out]⟩
            case measure => simp [intOf]; omega
        · have e : k = lp.length := by omega
          subst e
          rw [List.take_length]
          have HSW : Hid (Strs w1 (.slice (some ⟨b1, o1, none⟩) ls.length cap1) ls) := Strs.below HS.out HB1.out
          have HPW : Hid (Pends w1 (.slice a2 lp.length cap2) lp) := Pends.below HP.out HB1.out
          obtain ⟨tr, htr⟩ : ∃ tr, tr = readD ls lp k0 := ⟨_, rfl⟩
          rw [← htr]
          have HTR : Hid (tr = readD ls lp k0) := htr
          clear htr
          go_wp2_with (go_at_call 42; refine (copy_any _ _ ls lp _ HSW.out HPW.out h1 h2).mono ?_; rintro e w3 ⟨gs, gp, cs, cp, rfl, x1, x2, x3, x4, x5, x6, x7, hb3, _⟩; obtain ⟨m0, m1, m2, m3, mf⟩ := (Box4.below HY1.out hb3 (by omega)).cells; have HO3 : Hid (Own w3 w1.heap.size w3.heap.size (.slice (some ⟨gs, 0, none⟩) ls.length cs) (.slice (some ⟨gp, 0, none⟩) lp.length cp) ls lp) := own_mk x1 x2 x3 x6 x4 x7 x5; have HB3 : Hid (Below w.heap.size w w3) := bT HB1.out hb3; have hz3 := hb3.size; clear x1 x2 hb3)
          refine bodyPost_ret (v := outV (.slice (some ⟨gs, 0, none⟩) ls.length cs) (.slice (some ⟨gp, 0, none⟩) lp.length cp) tr 0) (by simp [results, Tryz.results39, go_sem, m0, m1, m2, m3]) rfl ⟨_, _, by rw [HTR.out], ?_, ?_⟩
          · refine Own.wide (lo := w1.heap.size) (hi := w3.heap.size) ?_ (by omega) (by simp)
            repeat' (first | exact HO3.out | refine Own.setCell ?_ (.inl (by simp; omega)) _)
          · repeat' (first | exact HB3.out | refine Below.setCell ?_ (by simp) _)
    · have KN : Hid (∀ W, Calls Tryz.prog 65 #[.int .i64 x, .int .i64 0, .int .i64 ((ls.length : Int) - 1)] W fun e w' => e = .returned (.bool false) ∧ W = w') := fun W => (is_no _ _ _ W (by omega)).mono fun _ _ h => ⟨h.1, h.2.symm⟩
      rw [readO_range HR.out hx]
      clear hx
      go_enter Tryz.func39, Tryz.ntmps39
      go_wp2_with fail
      rw [← hW0]
      refine HK.out.mono ?_
      rintro e w1 ⟨rfl, hb1⟩
      have hz1 : w.heap.size + 2 ≤ w1.heap.size := by have := hb1.size; have := HZ0.out; omega
      have HB1 : Hid (Below w.heap.size w w1) := bT HB0.out hb1
      have HX1 : Hid _ := Box2.below HX0.out hb1 (by have := HZ0.out; omega)
      have HY1 : Hid _ := Box4.below HY0.out hb1 (by have := HZ0.out; omega)
      clear hb1 hW0
      obtain ⟨c0, c1, _⟩ := Box2.cells HX1.out
      go_wp2_with (first
        | (go_at_call 65; refine (KN.out _).mono ?_; rintro e w2 ⟨rfl, rfl⟩)
        | (go_at_call 68; refine (ill_any 8 _).mono ?_; rintro e w3 ⟨rfl, hb3⟩; obtain ⟨m0, m1, m2, m3, mf⟩ := (Box4.below HY1.out hb3 (by omega)).cells; have HB3 : Hid (Below w.heap.size w w3) := bT HB1.out hb3; clear hb3))
      refine bodyPost_ret (v := outV (.slice none 0 0) (.slice none 0 0) ByteArray.empty 8) (by simp [results, Tryz.results39, go_sem, m0, m1, m2, m3]) rfl ⟨_, _, rfl, own_zero _ _ _, ?_⟩
      repeat' (first | exact HB3.out | refine Below.setCell ?_ (by simp) _)
end Go.Proofs.YtkigmpeanllimaaGreatDoor.Disk
