/- Lists of pending writes, sized, marked and held by the laws' own functions. -/
import Derived.Test.YtnfidmjplhmblaaGreatDoorHarnPend
namespace Go.Proofs.YtnfidmjplhmblaaGreatDoor.Harn
open Go.RowKit Go.Proofs.YtnfidmjplhmblaaGreatDoor.Mem Go.Proofs.YtnfidmjplhmblaaGreatDoor.Mark

theorem PendsAt.set1 {W : World} {g o i : Nat} {l : List (Int × ByteArray)} (h : PendsAt W g o l) (hi : i < l.length) (x : Int) : PendsAt (W.setCell ⟨g, o + i * 2, none⟩ (.int .i64 x)) g o (l.set i (x, l[i].2)) := fun j hj => by
  have hj2 : j < l.length := by simpa using hj
  obtain ⟨h1, h2, h3, h4⟩ := h j hj2
  obtain ⟨k1, k2, _, _⟩ := h i hi
  refine ⟨?_, ?_, by simpa using h3, by simpa using h4⟩
  · by_cases e : i = j
    · subst e
      rw [List.getElem_set_self]
      exact World.cell?_setCell_same _ _ _ k1
    · rw [List.getElem_set_ne e, World.cell?_setCell_other _ _ _ _ (by intro e; injection e with _ e2 _; omega)]
      exact h1
  · rw [World.cell?_setCell_other _ _ _ _ (by intro e; injection e with _ e2 _; omega)]
    by_cases e : i = j
    · subst e
      rw [List.getElem_set_self]
      exact h2
    · rw [List.getElem_set_ne e]
      exact h2
theorem PendsAt.set2 {W : World} {g o i : Nat} {l : List (Int × ByteArray)} (h : PendsAt W g o l) (hi : i < l.length) (t : ByteArray) : PendsAt (W.setCell ⟨g, o + i * 2 + 1, none⟩ (.string t)) g o (l.set i (l[i].1, t)) := fun j hj => by
  have hj2 : j < l.length := by simpa using hj
  obtain ⟨h1, h2, h3, h4⟩ := h j hj2
  obtain ⟨k1, k2, _, _⟩ := h i hi
  refine ⟨?_, ?_, by simpa using h3, by simpa using h4⟩
  · rw [World.cell?_setCell_other _ _ _ _ (by intro e; injection e with _ e2 _; omega)]
    by_cases e : i = j
    · subst e
      rw [List.getElem_set_self]
      exact h1
    · rw [List.getElem_set_ne e]
      exact h1
  · by_cases e : i = j
    · subst e
      rw [List.getElem_set_self]
      exact World.cell?_setCell_same _ _ _ k2
    · rw [List.getElem_set_ne e, World.cell?_setCell_other _ _ _ _ (by intro e; injection e with _ e2 _; omega)]
      exact h2

def marksP (k n : Nat) : List (Int × ByteArray) := (List.range n).map fun i => (((k + 2 * i : Nat) : Int), markB (k + 2 * i + 1))
theorem length_marksP (k n : Nat) : (marksP k n).length = n := by simp [marksP]
def markPTo (l : List (Int × ByteArray)) (k i : Nat) : List (Int × ByteArray) := marksP k i ++ l.drop i
theorem length_markPTo (l : List (Int × ByteArray)) (k i : Nat) (h : i ≤ l.length) : (markPTo l k i).length = l.length := by simp [markPTo, length_marksP]; omega
theorem markPTo_start (l : List (Int × ByteArray)) (k : Nat) : markPTo l k 0 = l := by simp [markPTo, marksP]
theorem markPTo_end (l : List (Int × ByteArray)) (k : Nat) : markPTo l k l.length = marksP k l.length := by simp [markPTo]
theorem markPTo_set (l : List (Int × ByteArray)) (k i : Nat) (h : i < l.length) : (markPTo l k i).set i (((k + 2 * i : Nat) : Int), markB (k + 2 * i + 1)) = markPTo l k (i + 1) := by
  have hl := length_marksP k i
  unfold markPTo
  rw [List.set_append_right _ _ (by omega), hl, Nat.sub_self, List.drop_eq_getElem_cons h, List.set_cons_zero]
  simp [marksP, List.range_succ]

set_option maxHeartbeats 1000000 in
theorem markPend_any (g o c k : Nat) (l : List (Int × ByteArray)) (w : World) (h : PendsAt w g o l) (hn : l.length ≤ 1100000) (hk : k ≤ 100000000) :
    Calls Tryz.prog 38 #[.slice (some ⟨g, o, none⟩) l.length c, .int .i64 (k : Int)] w fun e w' => e = .returned (.int .i64 ((k + 2 * l.length : Nat) : Int)) ∧ PendsAt w' g o (marksP k l.length) ∧ w.grownBy w' (some g) := by
  have HS : Hid (PendsAt w g o l) := h
  clear h
  go_enter Tryz.func38, Tryz.ntmps38
  go_wp2
  go_loopw [1, 5] (fun kk i wr => ∃ j : Nat, j ≤ l.length ∧ i = .int .i64 j ∧ kk = .int .i64 ((k + 2 * j : Nat) : Int) ∧ PendsAt wr g o (markPTo l k j) ∧ w.grownBy wr (some g)) (fun _ i _ => l.length - (intOf i).toNat)
  case atStart => exact ⟨0, by omega, rfl, rfl, by rw [markPTo_start]; exact HS.out, ⟨rfl, rfl, rfl, Nat.le_refl _, fun _ _ _ => rfl⟩⟩
  case round =>
    clear HS
    obtain ⟨j, hj, rfl, rfl, hst, hgr⟩ := hrel
    by_cases hlt : j < l.length
    · have hlm := length_markPTo l k j hj
      have HST : Hid (PendsAt wr g o (markPTo l k j)) := hst
      obtain ⟨c1, c2, f1, f2⟩ := hst j (by omega)
      have hgl := World.block_lt_of_cell? wr _ c1
      simp only at hgl
      have HM : Hid (∀ W, Calls Tryz.prog 57 #[.int .i64 ((k : Int) + 2 * (j : Int) + 1)] W fun e w' => e = .returned (.string (markB (k + 2 * j + 1))) ∧ Below W.heap.size W w') := fun W => markText_any (k + 2 * j + 1) W (by omega)
      have HE : Hid ((markPTo l k j).set j (((k + 2 * j : Nat) : Int), markB (k + 2 * j + 1)) = markPTo l k (j + 1)) := markPTo_set l k j hlt
      have S1 : Hid (PendsAt (wr.setCell ⟨g, o + j * 2, none⟩ (.int .i64 ((k : Int) + 2 * (j : Int)))) g o ((markPTo l k j).set j (((k : Int) + 2 * (j : Int)), (markPTo l k j)[j].2))) := hst.set1 (by omega) _
      generalize (markPTo l k j)[j].1 = x0 at *
      generalize (markPTo l k j)[j].2 = t0 at *
      generalize markB (k + 2 * j + 1) = t1 at *
      have p1 : (j : Int) < (l.length : Int) := by omega
      clear hst
      go_wp2_with (go_at_call 57; refine (HM.out _).mono ?_; rintro e w1 ⟨rfl, hb1⟩; obtain ⟨hcc, hff⟩ := bcell hb1; simp at hcc hff)
      have HSN : Hid (PendsAt (w1.setCell ⟨g, o + j * 2 + 1, none⟩ (.string t1)) g o (markPTo l k (j + 1))) := by
        unfold Hid
        have h2 := (PendsAt.below S1.out hb1).set2 (i := j) (by simp; omega) t1
        rw [List.getElem_set_self, List.set_set] at h2
        rw [← HE.out]
        simpa using h2
      have HGN : Hid (w.grownBy (w1.setCell ⟨g, o + j * 2 + 1, none⟩ (.string t1)) (some g)) := by
        refine ⟨hb1.os.trans hgr.os, hb1.tape.trans hgr.tape, hb1.output.trans hgr.output, ?_, fun q hq hne => ?_⟩
        · have h3 := hgr.size; have h4 := hb1.size; simp at h4 ⊢; omega
        · rw [Below.heap_setCell w1 _ _ q (by simpa using hne), hb1.block q (by have := hgr.size; simp; omega), Below.heap_setCell wr _ _ q (by simpa using hne), hgr.block q hq hne]
      clear hcc hff
      go_roundw
      case rel => exact ⟨j + 1, by omega, by go_num, by congr 1 <;> omega, HSN.out, HGN.out⟩
      case measure => simp [intOf]; omega
    · have e : j = l.length := by omega
      subst e
      rw [markPTo_end] at hst
      have HST : Hid _ := hst
      clear hst
      go_wp2
      go_ret
      exact ⟨by congr 2, HST.out, hgr⟩

set_option maxHeartbeats 1000000 in
theorem heldPend_any (v : Value) (k n : Nat) (w : World) (h : Pends w v (marksP k n)) (hn : n ≤ 1100000) (hk : k ≤ 100000000) :
    Calls Tryz.prog 59 #[v, .int .i64 (k : Int)] w fun e w' => e = .returned (.int .i64 ((k + 2 * n : Nat) : Int)) ∧ Below w.heap.size w w' := by
  obtain ⟨a, cap, rfl, hc⟩ := h
  rw [length_marksP]
  have HC : Hid (∀ j (h : j < n), ∃ b o, a = some ⟨b, o, none⟩ ∧ w.cell? ⟨b, o + j * 2, none⟩ = some (.int .i64 ((k : Int) + 2 * (j : Int))) ∧ w.cell? ⟨b, o + j * 2 + 1, none⟩ = some (.string (markB (k + 2 * j + 1)))) := fun j hj => by
    obtain ⟨b, o, h1, h2, h3⟩ := hc j (by rw [length_marksP]; exact hj)
    refine ⟨b, o, h1, ?_, ?_⟩
    · rw [h2]; simp [marksP]
    · rw [h3]; simp [marksP]
  clear hc
  go_enter Tryz.func59, Tryz.ntmps59
  go_wp2
  go_loopw [1, 5] (fun kk i wr => ∃ j : Nat, j ≤ n ∧ i = .int .i64 j ∧ kk = .int .i64 ((k + 2 * j : Nat) : Int) ∧ Below w.heap.size w wr) (fun _ i _ => n - (intOf i).toNat)
  case atStart => exact ⟨0, by omega, rfl, rfl, Below.refl _ _⟩
  case round =>
    obtain ⟨j, hj, rfl, rfl, hbel⟩ := hrel
    by_cases hlt : j < n
    · obtain ⟨b, o, rfl, d1, d2⟩ := HC.out j hlt
      have c1 : wr.cell? ⟨b, o + j * 2, none⟩ = _ := (hbel.cell (World.block_lt_of_cell? w _ d1)).trans d1
      have c2 : wr.cell? ⟨b, o + j * 2 + 1, none⟩ = _ := (hbel.cell (World.block_lt_of_cell? w _ d2)).trans d2
      have hbl := World.block_lt_of_cell? wr _ c1
      simp only at hbl
      have HM : Hid (∀ W, Calls Tryz.prog 57 #[.int .i64 ((k : Int) + 2 * (j : Int) + 1)] W fun e w' => e = .returned (.string (markB (k + 2 * j + 1))) ∧ Below W.heap.size W w') := fun W => markText_any (k + 2 * j + 1) W (by omega)
      generalize markB (k + 2 * j + 1) = t1 at *
      have p1 : (j : Int) < (n : Int) := by omega
      have HB : Hid (Below w.heap.size w wr) := hbel
      clear hbel d1 d2
      go_wp2_with fail
      go_region_with (go_at_call 57; refine (HM.out _).mono ?_; rintro e w1 ⟨rfl, hb1⟩; obtain ⟨hcc, hff⟩ := bcell hb1; simp at hcc hff)
      all_goals (have HB1 : Hid (Below w.heap.size w w1) := HB.out.drew.trans (hb1.mono HB.out.size))
      all_goals clear hcc hff hb1
      all_goals go_wp2
      all_goals go_roundw
      all_goals first
        | exact ⟨j + 1, by omega, by go_num, by congr 1 <;> omega, HB1.out⟩
        | (simp [intOf]; omega)
    · have e : j = n := by omega
      subst e
      go_wp2
      go_ret
      exact ⟨by congr 2, hbel⟩
end Go.Proofs.YtnfidmjplhmblaaGreatDoor.Harn
