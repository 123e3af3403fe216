/- Which lists of steps are right: the model's answer and the program's. -/
import Derived.Test.YtfpgobkedfhakaaStepsRight
namespace Go.Proofs.Ytfpgobkedfhakaa.Del
open Go.RowKit Go.Proofs.Ytfpgobkedfhakaa.Mem Go.Proofs.Ytfpgobkedfhakaa.Mark Go.Proofs.Ytfpgobkedfhakaa.Harn Go.Proofs.Ytfpgobkedfhakaa.Rws Go.Proofs.Ytfpgobkedfhakaa.Gf

theorem stepsR_bad {l : List Pc} {k : Nat} (hk : k < l.length) (h : stepR l[k] = false) : stepsR l = false := by
  unfold stepsR
  rw [Bool.and_eq_false_iff]
  refine .inr ?_
  rw [List.all_eq_false]
  exact ⟨_, List.getElem_mem hk, by rw [h]; decide⟩
theorem stepsR_ok {l : List Pc} (hl : l.length ≤ 3) (h : ∀ j (hj : j < l.length), stepR l[j] = true) : stepsR l = true := by
  unfold stepsR
  rw [decide_eq_true hl, Bool.true_and, List.all_eq_true]
  intro x hx
  obtain ⟨j, hj, rfl⟩ := List.getElem_of_mem hx
  exact h j hj
theorem stepsR_big {l : List Pc} (hl : ¬ l.length ≤ 3) : stepsR l = false := by unfold stepsR; simp [hl]
theorem stepsR_len {l : List Pc} (h : stepsR l = true) : l.length ≤ 3 := by
  rcases Nat.lt_or_ge 3 l.length with h2 | h2
  · rw [stepsR_big (by omega)] at h; cases h
  · exact h2
theorem stepsR_at {l : List Pc} (h : stepsR l = true) : ∀ x ∈ l, stepR x = true := by
  unfold stepsR at h
  simp only [Bool.and_eq_true, List.all_eq_true] at h
  exact h.2
set_option maxHeartbeats 1000000 in
theorem specSteps_any (v : Value) (l : List Pc) (w : World) (h : Ls w v l) (hn : l.length ≤ maxLen) (hs : ∀ y ∈ l, okSz y) :
    Calls Try.prog 67 #[v] w fun e w' => e = .returned (.bool (stepsR l)) ∧ Below w.heap.size w w' := by
  obtain ⟨a, cap, rfl, hc⟩ := h.at
  have HC := hidR hc
  have HSS := hidR hs
  unfold maxLen at hn
  clear hc h hs
  go_enter Try.func67, Try.ntmps67
  go_wp2
  go_loopw [3] (fun i wr => ∃ k : Nat, k ≤ l.length ∧ k ≤ 4 ∧ i = .int .i64 k ∧ Below w.heap.size w wr ∧ Hid (∀ j (hj : j < l.length), j < k → stepR l[j] = true)) (fun i _ => 5 - (intOf i).toNat)
  case atStart => exact ⟨0, by omega, by omega, rfl, Below.refl _ _, fun j _ h => by omega⟩
  case round =>
    obtain ⟨k, hk, hk4, rfl, hbel, HR⟩ := hrel
    by_cases hlt : k < l.length
    · have p1 : (k : Int) < (l.length : Int) := by omega
      by_cases h3 : k ≤ 3
      · have p2 : (k : Int) ≤ 3 := by omega
        obtain ⟨b, o, rfl, d0, d1, d2⟩ := HC.out k hlt
        have c0 : wr.cell? ⟨b, o + k * 3, none⟩ = _ := (hbel.cell (World.block_lt_of_cell? w _ d0)).trans d0
        have c1 : wr.cell? ⟨b, o + k * 3 + 1, none⟩ = _ := (hbel.cell (World.block_lt_of_cell? w _ d1)).trans d1
        have c2 : wr.cell? ⟨b, o + k * 3 + 2, none⟩ = _ := (hbel.cell (World.block_lt_of_cell? w _ d2)).trans d2
        have KS : Hid (∀ W, Calls Try.prog 96 #[.agg #[.int .i64 l[k].f, .int .i64 l[k].m, .string l[k].t]] W fun e w' => e = .returned (.bool (stepR l[k])) ∧ Below W.heap.size W w') := fun W => specStep_any l[k] W (HSS.out _ (List.getElem_mem hlt))
        have HBAD : Hid (stepR l[k] = false → stepsR l = false) := stepsR_bad hlt
        have HOK : Hid (stepR l[k] = true → ∀ j (hj : j < l.length), j < k + 1 → stepR l[j] = true) := fun h j hj hjk => by
          by_cases e : j = k
          · subst e; exact h
          · exact HR.out j hj (by omega)
        generalize stepR l[k] = z at *
        generalize l[k].f = x0 at *
        generalize l[k].m = x1 at *
        generalize l[k].t = x2 at *
        have HB := hidR hbel
        clear d0 d1 d2 hbel HR
        cases z
        · have HN := hidR (HBAD.out rfl)
          clear HBAD HOK
          go_wp2_with (go_at_call 96; refine (KS.out _).mono ?_; rintro e w1 ⟨rfl, hb1⟩)
          go_ret
          exact ⟨by rw [HN.out]; rfl, HB.out.trans (hb1.mono HB.out.size)⟩
        · have HN := hidR (HOK.out rfl)
          clear HBAD HOK
          go_wp2_with (go_at_call 96; refine (KS.out _).mono ?_; rintro e w1 ⟨rfl, hb1⟩)
          go_roundw
          case rel => exact ⟨k + 1, by omega, by omega, by go_num, HB.out.trans (hb1.mono HB.out.size), HN⟩
          case measure => simp [intOf]; omega
      · have p2 : ¬ (k : Int) ≤ 3 := by omega
        have p3 : ¬ (l.length : Int) ≤ 3 := by omega
        have HN := hidR (stepsR_big (l := l) (by omega))
        have HB := hidR hbel
        clear hbel HR
        go_wp2
        go_ret
        exact ⟨by rw [HN.out]; rfl, HB.out⟩
    · have e : k = l.length := by omega
      subst e
      have HB := hidR hbel
      have HN : Hid (l.length ≤ 3 → stepsR l = true) := fun h => stepsR_ok h (fun j hj => HR.out j hj hj)
      have HM : Hid (¬ l.length ≤ 3 → stepsR l = false) := stepsR_big
      clear hbel HR
      by_cases h3 : l.length ≤ 3
      · have p3 : (l.length : Int) ≤ 3 := by omega
        have HN' := hidR (HN.out h3)
        clear HN HM
        go_wp2
        go_ret
        exact ⟨by rw [HN'.out]; rfl, HB.out⟩
      · have p3 : ¬ (l.length : Int) ≤ 3 := by omega
        have HN' := hidR (HM.out h3)
        clear HN HM
        go_wp2
        go_ret
        exact ⟨by rw [HN'.out]; rfl, HB.out⟩
set_option maxHeartbeats 1000000 in
theorem implSteps_any (v : Value) (l : List Pc) (w : World) (h : Ls w v l) (hn : l.length ≤ maxLen) (hs : ∀ y ∈ l, okSz y) :
    Calls Try.prog 70 #[v] w fun e w' => e = .returned (.bool (stepsR l)) ∧ Below w.heap.size w w' := by
  obtain ⟨a, cap, rfl, hc⟩ := h.at
  have HC := hidR hc
  have HSS := hidR hs
  unfold maxLen at hn
  clear hc h hs
  by_cases hb3 : l.length ≤ 3
  · have p3 : (l.length : Int) ≤ 3 := by omega
    go_enter Try.func70, Try.ntmps70
    go_wp2
    go_loopw [10] (fun i wr => ∃ k : Nat, k ≤ l.length ∧ i = .int .i64 k ∧ Below w.heap.size w wr ∧ Hid (∀ j (hj : j < l.length), j < k → stepR l[j] = true)) (fun i _ => 5 - (intOf i).toNat)
    case atStart => exact ⟨0, by omega, rfl, Below.refl _ _, fun j _ h => by omega⟩
    case round =>
      obtain ⟨k, hk, rfl, hbel, HR⟩ := hrel
      by_cases hlt : k < l.length
      · have p1 : (k : Int) < (l.length : Int) := by omega
        obtain ⟨b, o, rfl, d0, d1, d2⟩ := HC.out k hlt
        have c0 : wr.cell? ⟨b, o + k * 3, none⟩ = _ := (hbel.cell (World.block_lt_of_cell? w _ d0)).trans d0
        have c1 : wr.cell? ⟨b, o + k * 3 + 1, none⟩ = _ := (hbel.cell (World.block_lt_of_cell? w _ d1)).trans d1
        have c2 : wr.cell? ⟨b, o + k * 3 + 2, none⟩ = _ := (hbel.cell (World.block_lt_of_cell? w _ d2)).trans d2
        have KS : Hid (∀ W, Calls Try.prog 97 #[.agg #[.int .i64 l[k].f, .int .i64 l[k].m, .string l[k].t]] W fun e w' => e = .returned (.bool (stepR l[k])) ∧ Below W.heap.size W w') := fun W => implStep_any l[k] W (HSS.out _ (List.getElem_mem hlt))
        have HBAD : Hid (stepR l[k] = false → stepsR l = false) := stepsR_bad hlt
        have HOK : Hid (stepR l[k] = true → ∀ j (hj : j < l.length), j < k + 1 → stepR l[j] = true) := fun h j hj hjk => by
          by_cases e : j = k
          · subst e; exact h
          · exact HR.out j hj (by omega)
        generalize stepR l[k] = z at *
        generalize l[k].f = x0 at *
        generalize l[k].m = x1 at *
        generalize l[k].t = x2 at *
        have HB := hidR (balloc hbel (.cells #[.int .i64 x0, .int .i64 x1, .string x2] 88))
        clear d0 d1 d2 hbel HR
        cases z
        · have HN := hidR (HBAD.out rfl)
          clear HBAD HOK
          go_wp2_with (go_at_call 97; refine (KS.out _).mono ?_; rintro e w1 ⟨rfl, hb1⟩)
          go_ret
          exact ⟨by rw [HN.out]; rfl, HB.out.trans (hb1.mono HB.out.size)⟩
        · have HN := hidR (HOK.out rfl)
          clear HBAD HOK
          go_wp2_with (go_at_call 97; refine (KS.out _).mono ?_; rintro e w1 ⟨rfl, hb1⟩)
          go_roundw
          case rel => exact ⟨k + 1, by omega, by go_num, HB.out.trans (hb1.mono HB.out.size), HN⟩
          case measure => simp [intOf]; omega
      · have e : k = l.length := by omega
        subst e
        have HB := hidR hbel
        have HN := hidR (stepsR_ok hb3 (fun j hj => HR.out j hj hj))
        clear hbel HR
        go_wp2
        go_ret
        exact ⟨by rw [HN.out]; rfl, HB.out⟩
  · have p3 : ¬ (l.length : Int) ≤ 3 := by omega
    have HN := hidR (stepsR_big hb3)
    go_enter Try.func70, Try.ntmps70
    go_wp2
    go_ret
    exact ⟨by rw [HN.out]; rfl, Below.refl _ _⟩
end Go.Proofs.Ytfpgobkedfhakaa.Del
