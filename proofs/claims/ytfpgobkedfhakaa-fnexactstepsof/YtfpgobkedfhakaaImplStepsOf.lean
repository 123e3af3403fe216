/- What StepsOf answers: the model's and the program's. -/
import Derived.Test.YtfpgobkedfhakaaSpecSteps
namespace Go.Proofs.Ytfpgobkedfhakaa.Del
open Go.RowKit Go.Proofs.Ytfpgobkedfhakaa.Mem Go.Proofs.Ytfpgobkedfhakaa.Mark Go.Proofs.Ytfpgobkedfhakaa.Harn Go.Proofs.Ytfpgobkedfhakaa.Rws

set_option maxHeartbeats 1000000 in
theorem specSO_any (a b : ByteArray) (w : World) (ha : a.size ≤ 1000000000) (hb : b.size ≤ 1000000000) :
    Calls Try.prog 25 #[.string a, .string b] w fun e w' => ∃ v, e = .returned v ∧ OwnP w' w.heap.size v (stepsO a b) ∧ Below w.heap.size w w' := by
  have KO := hidR (fun W => specOf_any a b W ha hb)
  have HE : Hid (80 < a.size ∨ 80 < b.size → stepsO a b = []) := fun h => by unfold stepsO; rw [if_pos h]
  have HN : Hid (¬ (80 < a.size ∨ 80 < b.size) → stepsO a b = stepsN a b) := fun h => by unfold stepsO; rw [if_neg h]
  generalize stepsO a b = lo at *
  generalize stepsN a b = ln at *
  have HW : Hid (OwnP (w.alloc (.cells #[] 88)) w.heap.size (.slice (some ⟨w.heap.size, 0, none⟩) 0 0) []) := ownR_empty (Nat.le_refl _) (Sha.row_new w [] _)
  by_cases h1 : 80 < a.size
  · have HE1 := hidR (HE.out (.inl h1))
    clear HE HN
    have d1 : (80 : Int) < (a.size : Int) := by omega
    go_enter Try.func25, Try.ntmps25
    go_wp2
    go_ret
    exact ⟨_, rfl, by rw [HE1.out]; exact HW.out, (Below.refl _ _).alloc (Nat.le_refl _) _⟩
  · by_cases h2 : 80 < b.size
    · have HE1 := hidR (HE.out (.inr h2))
      clear HE HN
      have d1 : (80 : Int) < (b.size : Int) := by omega
      go_enter Try.func25, Try.ntmps25
      go_wp2
      go_ret
      exact ⟨_, rfl, by rw [HE1.out]; exact HW.out, (Below.refl _ _).alloc (Nat.le_refl _) _⟩
    · have HE1 := hidR (HN.out (by omega))
      clear HE HN
      go_enter Try.func25, Try.ntmps25
      go_wp2_with fail
      refine (KO.out _).mono ?_
      rintro e w1 ⟨v, rfl, ho, hb1⟩
      have HO := hidR ho
      have HB := hidR hb1
      clear ho hb1
      go_wp2
      go_ret
      exact ⟨_, rfl, by rw [HE1.out]; exact HO.out, HB.out⟩
theorem slice_from (tx : ByteArray) (a : Nat) (ha : a ≤ tx.size) (i : Int) (hi : i = a) (W : World) : (Instr.slice 9 (.string tx) (some (.int .i64 i)) none none).run Try.prog W = .ok (.string (tx.extract a tx.size)) W := by
  subst hi
  simp [Instr.slice, Instr.sliceBounds, run_underlying Join.underS, go_sem, ha]
theorem joinE2 (t : ByteArray) (w : World) (h : t.size ≤ 1000) : Calls Try.prog 63 #[.string ByteArray.empty, .string t] w fun e w' => e = .returned (.string t) ∧ Below w.heap.size w w' := by
  refine (Join.join_any ByteArray.empty t w (by simp) (by omega)).mono ?_
  rintro e w' ⟨rfl, h2⟩
  exact ⟨by simp, h2⟩
set_option maxRecDepth 100000 in
set_option maxHeartbeats 2000000 in
theorem implSO_any (a b : ByteArray) (w : World) (ha : a.size ≤ 1000000000) (hb : b.size ≤ 1000000000) :
    Calls Try.prog 26 #[.string a, .string b] w fun e w' => ∃ v, e = .returned v ∧ OwnP w' w.heap.size v (stepsO a b) ∧ Below w.heap.size w w' := by
  have HE : Hid (80 < a.size ∨ 80 < b.size → stepsO a b = []) := fun h => by unfold stepsO; rw [if_pos h]
  have HN : Hid (¬ (80 < a.size ∨ 80 < b.size) → stepsO a b = stepsN a b) := fun h => by unfold stepsO; rw [if_neg h]
  have HW : Hid (OwnP w w.heap.size (.slice none 0 0) []) := ownR_nil _ _ _ _
  by_cases h1 : 80 < a.size
  · have HE1 := hidR (HE.out (.inl h1))
    generalize stepsO a b = lo at *
    clear HE HN
    have d1 : (80 : Int) < (a.size : Int) := by omega
    go_enter Try.func26, Try.ntmps26
    go_wp2
    go_ret
    exact ⟨_, rfl, by rw [HE1.out]; exact HW.out, Below.refl _ _⟩
  · by_cases h2 : 80 < b.size
    · have HE1 := hidR (HE.out (.inr h2))
      generalize stepsO a b = lo at *
      clear HE HN
      have d1 : (80 : Int) < (b.size : Int) := by omega
      go_enter Try.func26, Try.ntmps26
      go_wp2
      go_ret
      exact ⟨_, rfl, by rw [HE1.out]; exact HW.out, Below.refl _ _⟩
    · have HE1 := hidR (HN.out (by omega))
      clear HE HN
      have KA := hidR (fun W => ahead2_any a b W ha hb)
      have hpl := preN_le a b
      have hzl := sufN_le a b
      have KB : Hid (∀ W, Calls Try.prog 62 #[.string (a.extract (preN a b) a.size), .string (b.extract (preN a b) b.size)] W fun e w' => e = .returned (.int .i64 (sufN a b : Nat)) ∧ Below W.heap.size W w') := fun W => by
        have := behind_any (a.extract (preN a b) a.size) (b.extract (preN a b) b.size) W (by rw [size_from]; omega) (by rw [size_from]; omega)
        rw [suf_from a b (preN a b) _ 0 rfl] at this
        exact this
      have HL : Hid (stepsN a b = stepsL a b (preN a b) (sufN a b)) := rfl
      generalize stepsO a b = lo at *
      generalize stepsN a b = ln at *
      have hsa : ∀ W, (Instr.slice 9 (.string a) (some (.int .i64 (preN a b : Nat))) none none).run Try.prog W = .ok (.string (a.extract (preN a b) a.size)) W := fun W => slice_from a _ hpl.1 _ rfl W
      have hsb : ∀ W, (Instr.slice 9 (.string b) (some (.int .i64 (preN a b : Nat))) none none).run Try.prog W = .ok (.string (b.extract (preN a b) b.size)) W := fun W => slice_from b _ hpl.2 _ rfl W
      generalize preN a b = k at *
      generalize sufN a b = z at *
      generalize a.extract k a.size = ax at *
      generalize b.extract k b.size = bx at *
      obtain ⟨hka, hkb⟩ := hpl
      obtain ⟨hza, hzb⟩ := hzl
      go_enter Try.func26, Try.ntmps26
      go_wp2_with fail
      refine (KA.out _).mono ?_
      rintro e w1 ⟨rfl, hb1⟩
      have HB1 := hidR hb1
      clear hb1 KA
      go_wp2_with fail
      go_region_with (go_at_call 62; refine (KB.out _).mono ?_; rintro e w2 ⟨rfl, hb2⟩)
      have HB2 := hidR (HB1.out.drew.trans (hb2.mono HB1.out.drew.size) : Below w.heap.size w w2)
      clear hb2 HB1 KB hsa hsb
      have f2 : (z : Int) ≤ (a.size : Int) := by omega
      have f3 : (z : Int) ≤ (b.size : Int) := by omega
      have w3 : (a.size : Int) - (z : Int) = ((a.size - z : Nat) : Int) := by omega
      have w4 : (b.size : Int) - (z : Int) = ((b.size - z : Nat) : Int) := by omega
      have hst : ∀ W, (Instr.slice 9 (.string b) (some (.int .i64 (k : Int))) (some (.int .i64 ((b.size - z : Nat) : Int))) none).run Try.prog W = .ok (.string (b.extract k (b.size - z))) W := fun W => slice_text b k (b.size - z) (by omega) (by omega) _ _ rfl rfl W
      have hts : (b.extract k (b.size - z)).size = b.size - z - k := by simp
      have KJ : Hid (∀ W, Calls Try.prog 63 #[.string ByteArray.empty, .string (b.extract k (b.size - z))] W fun e w' => e = .returned (.string (b.extract k (b.size - z))) ∧ Below W.heap.size W w') := fun W => joinE2 _ W (by omega)
      have w5 : ((a.size - z : Nat) : Int) ≤ 1000000000 := by omega
      have w6 : ((b.size - z : Nat) : Int) ≤ 1000000000 := by omega
      have HE9 : Hid ((b.extract k (b.size - z)).toList.isEmpty = !decide (k < b.size - z)) := by
        have h := hts
        generalize b.extract k (b.size - z) = t at *
        have h2 : t.data.toList.length = t.size := rfl
        show _ = _
        rw [Lib.toList_data]
        by_cases hk : k < b.size - z
        · have : 0 < t.data.toList.length := by omega
          cases h3 : t.data.toList with
          | nil => rw [h3] at this; simp at this
          | cons x y => simp [hk]
        · have : t.data.toList.length = 0 := by omega
          rw [List.length_eq_zero_iff.1 this]; simp [hk]
      generalize hp : b.extract k (b.size - z) = t at *
      have HPT := hidR hp
      generalize hA : a.size - z = A at *
      have HA := hidR hA
      generalize hBz : b.size - z = Bz at *
      have HBz := hidR hBz
      clear hp hA hBz hza hzb hka hkb hts
      have HO : Hid (OwnR w2 w.heap.size 88 3 (.slice none 0 0) []) := ownR_nil _ _ _ _
      have HZ : Hid (w.heap.size ≤ w2.heap.size) := HB2.out.size
      have HB := hidR HB2.out
      clear HB2 HW
      by_cases c1 : 0 < k <;> by_cases c2 : k < Bz <;> by_cases c3 : 0 < z
      all_goals
        (first | (have d2 : t.toList.isEmpty = false := by rw [HE9.out]; simp [c2]; done) | (have d2 : t.toList.isEmpty = true := by rw [HE9.out]; simp [c2]; done))
        go_wp2_with (first | (at_builtin; refine wp_row kindT (by rfl) _ _ (by rfl) w.heap.size _ _ _ _ (by rfl) (by rfl) (HO.out.below ((Below.refl _ _).alloc (Nat.le_refl _) _) (Nat.le_refl _)) (by have := HZ.out; simp; omega) (by rfl) (Sha.row_new _ [_, _, _] _) (by simp [Value.oneCell']) (by simp) ?_; intro g c y ho hg; (have HBn := hidR (Below.grown (HB.out.alloc HZ.out _) hg (by have := HZ.out; simp; omega) (fun j hj => (HO.out.lt j hj).1))); (have HZn : Hid (w.heap.size ≤ y.heap.size) := HBn.out.size); (have HOn := hidR ho); clear HO HB HZ ho hg; (have HO := HOn); (have HB := HBn); (have HZ := HZn); clear HOn HBn HZn) | (go_at_call 63; refine (KJ.out _).mono ?_; rintro e y ⟨rfl, hbj⟩; (have HBn : Hid (Below w.heap.size w y) := hidR (bstep HB.out hbj)); (have HZn : Hid (w.heap.size ≤ y.heap.size) := HBn.out.size); (have HOn := hidR (HO.out.below hbj (Nat.le_refl _))); clear HO HB HZ hbj; (have HO := HOn); (have HB := HBn); (have HZ := HZn); clear HOn HBn HZn))
        go_ret
        refine ⟨_, rfl, ?_, HB.out⟩
        have hrow := HO.out
        unfold OwnP
        rw [HE1.out, HL.out]
        unfold stepsL
        rw [HA.out, HBz.out]
        simpa [c1, c2, c3, Pc.row, HPT.out, empty_lit] using hrow
end Go.Proofs.Ytfpgobkedfhakaa.Del
