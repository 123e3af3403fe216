/- Which ops are right: the model's answer. -/
import Derived.Test.YtfpgobkedfhakabHarnOp
import Derived.Test.YtfpgobkedfhakabTextsE
import Derived.Test.YtfpgobkedfhakabSpecPath
import Derived.Test.YtfpgobkedfhakabTextsA
namespace Go.Proofs.Ytfpgobkedfhakab.Ops
open Go.RowKit Go.Proofs.Ytfpgobkedfhakab.Mem Go.Proofs.Ytfpgobkedfhakab.Mark Go.Proofs.Ytfpgobkedfhakab.Harn Go.Proofs.Ytfpgobkedfhakab.Rws Go.Proofs.Ytfpgobkedfhakab.Gf Go.Proofs.Ytfpgobkedfhakab.Tre

/-- is it a right op? -/
def opR (x : Ox) : Bool := pathR x.p && (decide (0 ≤ x.m) && decide (x.m ≤ 511)) && (if x.k = 1 then decide (x.d.size ≤ 80) && x.s.isEmpty else if x.k = 2 then (x.m == 0) && x.d.toList.isEmpty && x.s.isEmpty else if x.k = 3 then x.d.toList.isEmpty && Del.stepsR x.s else false)
def opsR (l : List Ox) : Bool := decide (l.length ≤ 12) && l.all opR
theorem opsR_bad {l : List Ox} {k : Nat} (hk : k < l.length) (h : opR l[k] = false) : opsR l = false := by
  unfold opsR
  rw [Bool.and_eq_false_iff]
  refine .inr ?_
  rw [List.all_eq_false]
  exact ⟨_, List.getElem_mem hk, by rw [h]; decide⟩
theorem opsR_ok {l : List Ox} (hl : l.length ≤ 12) (h : ∀ j (hj : j < l.length), opR l[j] = true) : opsR l = true := by
  unfold opsR
  rw [decide_eq_true hl, Bool.true_and, List.all_eq_true]
  intro x hx
  obtain ⟨j, hj, rfl⟩ := List.getElem_of_mem hx
  exact h j hj
theorem opsR_big {l : List Ox} (hl : ¬ l.length ≤ 12) : opsR l = false := by unfold opsR; simp [hl]
theorem opsR_len {l : List Ox} (h : opsR l = true) : l.length ≤ 12 := by
  rcases Nat.lt_or_ge 12 l.length with h2 | h2
  · rw [opsR_big (by omega)] at h; cases h
  · exact h2
theorem opsR_at {l : List Ox} (h : opsR l = true) : ∀ x ∈ l, opR x = true := by
  unfold opsR at h
  simp only [Bool.and_eq_true, List.all_eq_true] at h
  exact h.2
theorem isEmpty_len (l : List Del.Pc) : l.isEmpty = ((l.length : Int) == 0) := by
  cases l with
  | nil => rfl
  | cons a b => simp; omega
theorem ret_bool {a b : Bool} (h : a = b) : Ending.returned (.bool a) = .returned (.bool b) := by rw [h]
set_option maxRecDepth 100000 in
set_option maxHeartbeats 2000000 in
theorem specOp_any (v : Value) (x : Ox) (w : World) (h : OV w v x) (hs : okSz x) : Calls Try.prog 19 #[v] w fun e w' => e = .returned (.bool (opR x)) ∧ Below w.heap.size w w' := by
  obtain ⟨vs, rfl, hl⟩ := h
  have K1 : Hid (∀ W, Calls Try.prog 28 #[.string x.p] W fun e w' => e = .returned (.bool (pathR x.p)) ∧ Below W.heap.size W w') := fun W => specPath_any x.p W
  have K2 : Hid (∀ W, Calls Try.prog 29 #[.int .i64 x.m, .int .i64 0, .int .i64 511] W fun e w' => e = .returned (.bool (isB x.m 0 511)) ∧ W = w') := fun W => l05Is_any x.m 0 511 W
  have K3 : Hid (∀ W, Del.Ls W vs x.s → Calls Try.prog 30 #[vs] W fun e w' => e = .returned (.bool (Del.stepsR x.s)) ∧ Below W.heap.size W w') := fun W hW => Del.specSteps_any vs x.s W hW hs.2.2.1 hs.2.2.2
  obtain ⟨a, cap, rfl, _⟩ := hl.at
  have HL := hidR hl
  have hd := hs.2.1
  have HE : Hid (opR x = (pathR x.p && isB x.m 0 511 && (if x.k = 1 then decide ((x.d.size : Int) ≤ 80) && ((x.s.length : Int) == 0) else if x.k = 2 then (x.m == 0) && x.d.toList.isEmpty && ((x.s.length : Int) == 0) else if x.k = 3 then x.d.toList.isEmpty && Del.stepsR x.s else false))) := by
    show _ = _
    unfold opR
    have e3 : decide (x.d.size ≤ 80) = decide ((x.d.size : Int) ≤ 80) := decide_eq_decide.2 (by omega)
    rw [← Del.isB_two, isEmpty_len, e3]
  unfold maxLen at hd
  have hsl := hs.2.2.1
  unfold maxLen at hsl
  clear hl hs
  generalize opR x = R at *
  generalize pathR x.p = z1 at *
  generalize isB x.m 0 511 = z2 at *
  generalize Del.stepsR x.s = z3 at *
  generalize x.k = y0 at *
  generalize x.p = y1 at *
  generalize x.m = y2 at *
  generalize x.d = y3 at *
  generalize x.s = li at *
  have HB : Hid (Below w.heap.size w (w.alloc (.cells #[.int .i64 y0, .string y1, .int .i64 y2, .string y3, .slice a li.length cap] 36))) := (Below.refl _ _).alloc (Nat.le_refl _) _
  cases z1
  · have HN : Hid (R = false) := by rw [HE.out]; rfl
    clear HE
    go_enter Try.func19, Try.ntmps19
    go_wp2_with fail
    refine (K1.out _).mono ?_
    rintro e w1 ⟨rfl, hb1⟩
    go_wp2
    go_ret
    exact ⟨by rw [HN.out]; rfl, bstep HB.out hb1⟩
  · cases z2
    · have HN : Hid (R = false) := by rw [HE.out]; rfl
      clear HE
      go_enter Try.func19, Try.ntmps19
      go_wp2_with fail
      refine (K1.out _).mono ?_
      rintro e w1 ⟨rfl, hb1⟩
      obtain ⟨hcc, hff⟩ := bcell hb1
      simp at hcc hff
      have HB1 := hidR (bstep HB.out hb1)
      clear hb1
      go_wp2_with fail
      refine (K2.out _).mono ?_
      rintro e w2 ⟨rfl, rfl⟩
      go_wp2
      go_ret
      exact ⟨by rw [HN.out]; rfl, HB1.out⟩
    · by_cases k1 : y0 = 1
      · have HN : Hid (R = (decide ((y3.size : Int) ≤ 80) && ((li.length : Int) == 0))) := by rw [HE.out, if_pos k1]; rfl
        clear HE
        subst k1
        go_enter Try.func19, Try.ntmps19
        go_wp2_with fail
        refine (K1.out _).mono ?_
        rintro e w1 ⟨rfl, hb1⟩
        obtain ⟨hcc, hff⟩ := bcell hb1
        simp at hcc hff
        have HB1 := hidR (bstep HB.out hb1)
        clear hb1
        go_wp2_with fail
        refine (K2.out _).mono ?_
        rintro e w2 ⟨rfl, rfl⟩
        go_wp2
        all_goals
          go_ret
          refine ⟨?_, HB1.out⟩
          rw [HN.out]
          first | rfl | (simp_all; done) | (simp_all; omega)
      · by_cases k2 : y0 = 2
        · have HN : Hid (R = ((y2 == 0) && y3.toList.isEmpty && ((li.length : Int) == 0))) := by rw [HE.out, if_neg k1, if_pos k2]; rfl
          clear HE
          subst k2
          clear k1
          go_enter Try.func19, Try.ntmps19
          go_wp2_with fail
          refine (K1.out _).mono ?_
          rintro e w1 ⟨rfl, hb1⟩
          obtain ⟨hcc, hff⟩ := bcell hb1
          simp at hcc hff
          have HB1 := hidR (bstep HB.out hb1)
          clear hb1
          go_wp2_with fail
          refine (K2.out _).mono ?_
          rintro e w2 ⟨rfl, rfl⟩
          go_wp2
          all_goals
            go_ret
            refine ⟨?_, HB1.out⟩
            rw [HN.out]
            first | rfl | (simp_all; done) | (simp_all; omega)
        · have kb : (y0 == 1) = false := by simpa using k1
          have kc : (y0 == 2) = false := by simpa using k2
          by_cases k3 : y0 = 3
          · have HN : Hid (R = (y3.toList.isEmpty && z3)) := by rw [HE.out, if_neg k1, if_neg k2, if_pos k3]; rfl
            subst k3
            clear HE k1 k2 kb kc
            cases hy : y3.toList.isEmpty
            all_goals
              rw [hy] at HN
              go_enter Try.func19, Try.ntmps19
              go_wp2_with fail
              refine (K1.out _).mono ?_
              rintro e w1 ⟨rfl, hb1⟩
              obtain ⟨hcc, hff⟩ := bcell hb1
              simp at hcc hff
              have HB1 := hidR (bstep HB.out hb1)
              have HL1 := hidR ((HL.out.below HB.out).below hb1)
              clear hb1
              go_wp2_with fail
              refine (K2.out _).mono ?_
              rintro e w2 ⟨rfl, rfl⟩
              go_wp2_with fail
              first
                | (go_ret; exact ⟨by rw [HN.out]; rfl, HB1.out⟩)
                | (refine (K3.out _ HL1.out).mono ?_; rintro e w3 ⟨rfl, hb3⟩; have HB3 := hidR (bstep HB1.out hb3); clear hb3; go_wp2; go_ret; exact ⟨by rw [HN.out]; simp, HB3.out⟩)
          · have HN : Hid (R = false) := by rw [HE.out, if_neg k1, if_neg k2, if_neg k3]; rfl
            have kd : (y0 == 3) = false := by simpa using k3
            clear HE
            go_enter Try.func19, Try.ntmps19
            go_wp2_with fail
            refine (K1.out _).mono ?_
            rintro e w1 ⟨rfl, hb1⟩
            obtain ⟨hcc, hff⟩ := bcell hb1
            simp at hcc hff
            have HB1 := hidR (bstep HB.out hb1)
            clear hb1
            go_wp2_with fail
            refine (K2.out _).mono ?_
            rintro e w2 ⟨rfl, rfl⟩
            go_wp2
            go_ret
            exact ⟨by rw [HN.out]; rfl, HB1.out⟩
set_option maxHeartbeats 1000000 in
theorem specOR_any (v : Value) (l : List Ox) (w : World) (h : Ls w v l) (hn : l.length ≤ maxLen) (hs : ∀ y ∈ l, okSz y) :
    Calls Try.prog 10 #[v] w fun e w' => e = .returned (.bool (opsR l)) ∧ Below w.heap.size w w' := by
  obtain ⟨a, cap, rfl, hc⟩ := h
  have HC := hidR hc
  have HSS := hidR hs
  unfold maxLen at hn
  clear hc hs
  go_enter Try.func10, Try.ntmps10
  go_wp2
  go_loopw [3] (fun i wr => ∃ k : Nat, k ≤ l.length ∧ k ≤ 13 ∧ i = .int .i64 k ∧ Below w.heap.size w wr ∧ Hid (∀ j (hj : j < l.length), j < k → opR l[j] = true)) (fun i _ => 14 - (intOf i).toNat)
  case atStart => exact ⟨0, by omega, by omega, rfl, Below.refl _ _, fun j _ h => by omega⟩
  case round =>
    obtain ⟨k, hk, hk4, rfl, hbel, HR⟩ := hrel
    by_cases hlt : k < l.length
    · have p1 : (k : Int) < (l.length : Int) := by omega
      by_cases h3 : k ≤ 12
      · have p2 : (k : Int) ≤ 12 := by omega
        obtain ⟨b, o, vs, rfl, d0, d1, d2, d3, d4, hls⟩ := HC.out k hlt
        have c0 : wr.cell? ⟨b, o + k * 5, none⟩ = _ := (hbel.cell (World.block_lt_of_cell? w _ d0)).trans d0
        have c1 : wr.cell? ⟨b, o + k * 5 + 1, none⟩ = _ := (hbel.cell (World.block_lt_of_cell? w _ d1)).trans d1
        have c2 : wr.cell? ⟨b, o + k * 5 + 2, none⟩ = _ := (hbel.cell (World.block_lt_of_cell? w _ d2)).trans d2
        have c3 : wr.cell? ⟨b, o + k * 5 + 3, none⟩ = _ := (hbel.cell (World.block_lt_of_cell? w _ d3)).trans d3
        have c4 : wr.cell? ⟨b, o + k * 5 + 4, none⟩ = _ := (hbel.cell (World.block_lt_of_cell? w _ d4)).trans d4
        have KS : Hid (∀ W, Below w.heap.size w W → Calls Try.prog 19 #[.agg #[.int .i64 l[k].k, .string l[k].p, .int .i64 l[k].m, .string l[k].d, vs]] W fun e w' => e = .returned (.bool (opR l[k])) ∧ Below W.heap.size W w') := fun W hW => specOp_any _ l[k] W ⟨vs, rfl, hls.below hW⟩ (HSS.out _ (List.getElem_mem hlt))
        have HBAD : Hid (opR l[k] = false → opsR l = false) := opsR_bad hlt
        have HOK : Hid (opR l[k] = true → ∀ j (hj : j < l.length), j < k + 1 → opR l[j] = true) := fun h j hj hjk => by
          by_cases e : j = k
          · subst e; exact h
          · exact HR.out j hj (by omega)
        generalize opR l[k] = z at *
        generalize l[k].k = x0 at *
        generalize l[k].p = x1 at *
        generalize l[k].m = x2 at *
        generalize l[k].d = x3 at *
        have HB := hidR hbel
        clear d0 d1 d2 d3 d4 hbel HR hls
        cases z
        · have HN := hidR (HBAD.out rfl)
          clear HBAD HOK
          go_wp2_with (go_at_call 19; refine (KS.out _ HB.out).mono ?_; rintro e w1 ⟨rfl, hb1⟩)
          go_ret
          exact ⟨by rw [HN.out]; rfl, HB.out.trans (hb1.mono HB.out.size)⟩
        · have HN := hidR (HOK.out rfl)
          clear HBAD HOK
          go_wp2_with (go_at_call 19; refine (KS.out _ HB.out).mono ?_; rintro e w1 ⟨rfl, hb1⟩)
          go_roundw
          case rel => exact ⟨k + 1, by omega, by omega, by go_num, HB.out.trans (hb1.mono HB.out.size), HN⟩
          case measure => simp [intOf]; omega
      · have p2 : ¬ (k : Int) ≤ 12 := by omega
        have p3 : ¬ (l.length : Int) ≤ 12 := by omega
        have HN := hidR (opsR_big (l := l) (by omega))
        have HB := hidR hbel
        clear hbel HR
        go_wp2
        go_ret
        exact ⟨by rw [HN.out]; rfl, HB.out⟩
    · have e : k = l.length := by omega
      subst e
      have HB := hidR hbel
      have HN : Hid (l.length ≤ 12 → opsR l = true) := fun h => opsR_ok h (fun j hj => HR.out j hj hj)
      have HM : Hid (¬ l.length ≤ 12 → opsR l = false) := opsR_big
      clear hbel HR
      by_cases h3 : l.length ≤ 12
      · have p3 : (l.length : Int) ≤ 12 := by omega
        have HN' := hidR (HN.out h3)
        clear HN HM
        go_wp2
        go_ret
        exact ⟨by rw [HN'.out]; rfl, HB.out⟩
      · have p3 : ¬ (l.length : Int) ≤ 12 := by omega
        have HN' := hidR (HM.out h3)
        clear HN HM
        go_wp2
        go_ret
        exact ⟨by rw [HN'.out]; rfl, HB.out⟩
end Go.Proofs.Ytfpgobkedfhakab.Ops
