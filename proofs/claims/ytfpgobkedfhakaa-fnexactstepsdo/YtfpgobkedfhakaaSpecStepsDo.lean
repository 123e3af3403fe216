/- What the steps make of a text: lists alone, and the model's answer. -/
import Derived.Test.YtfpgobkedfhakaaStepsRight2
import Derived.Test.YtfpgobkedfhakaaSpecSteps
namespace Go.Proofs.Ytfpgobkedfhakaa.Del
open Go.RowKit Go.Proofs.Ytfpgobkedfhakaa.Mem Go.Proofs.Ytfpgobkedfhakaa.Mark Go.Proofs.Ytfpgobkedfhakaa.Harn Go.Proofs.Ytfpgobkedfhakaa.Rws Go.Proofs.Ytfpgobkedfhakaa.Gf

def pieceOf (old : ByteArray) (x : Pc) : ByteArray := old.extract x.f.toNat (x.f + x.m).toNat
/-- what comes of the steps l behind what is there -/
def doGo (old : ByteArray) : List Pc → ByteArray → ByteArray × Int
  | [], acc => if 80 < acc.size then (ByteArray.empty, 9) else (acc, 0)
  | x :: l, acc => if (old.size : Int) < x.f + x.m then (ByteArray.empty, 8) else doGo old l (acc ++ pieceOf old x ++ x.t)
/-- what StepsDo tells -/
def doO (old : ByteArray) (l : List Pc) : ByteArray × Int := if 8000 < old.size ∨ 400 < l.length then (ByteArray.empty, 2) else if 80 < old.size ∨ stepsR l = false then (ByteArray.empty, 1) else doGo old l ByteArray.empty
theorem stepR_bd {x : Pc} (h : stepR x = true) : 0 ≤ x.f ∧ x.f ≤ 80 ∧ 0 ≤ x.m ∧ x.m ≤ 80 ∧ x.m + x.t.size ≤ 80 := by
  unfold stepR at h
  split at h
  · rename_i he
    have := empty_size _ he
    simp only [Bool.and_eq_true, decide_eq_true_eq] at h
    omega
  · simp only [Bool.and_eq_true, decide_eq_true_eq, beq_iff_eq] at h
    omega
theorem piece_size (old : ByteArray) {x : Pc} (h : 0 ≤ x.f) (h2 : 0 ≤ x.m) : ((pieceOf old x).size : Int) ≤ x.m := by
  unfold pieceOf
  simp
  omega
theorem do_next {old : ByteArray} {l : List Pc} {k : Nat} (hk : k < l.length) (acc : ByteArray) (h : ¬ (old.size : Int) < l[k].f + l[k].m) : doGo old (l.drop k) acc = doGo old (l.drop (k + 1)) (acc ++ pieceOf old l[k] ++ l[k].t) := by
  rw [List.drop_eq_getElem_cons hk, doGo, if_neg h]
theorem do_range {old : ByteArray} {l : List Pc} {k : Nat} (hk : k < l.length) (acc : ByteArray) (h : (old.size : Int) < l[k].f + l[k].m) : doGo old (l.drop k) acc = (ByteArray.empty, 8) := by
  rw [List.drop_eq_getElem_cons hk, doGo, if_pos h]
theorem do_end {old : ByteArray} {l : List Pc} (acc : ByteArray) : doGo old (l.drop l.length) acc = if 80 < acc.size then (ByteArray.empty, 9) else (acc, 0) := by
  rw [List.drop_length, doGo]
def textO (t : ByteArray) (c : Int) : Value := .agg #[.string t, .int .i64 0, .int .i64 c]
set_option maxRecDepth 100000 in
set_option maxHeartbeats 2000000 in
theorem specDo_any (old : ByteArray) (v : Value) (l : List Pc) (w : World) (h : Ls w v l) (ho : old.size ≤ 80) (hl : l.length ≤ 3) (hr : ∀ x ∈ l, stepR x = true) :
    Calls Try.prog 68 #[.string old, v] w fun e w' => e = .returned (textO (doGo old l ByteArray.empty).1 (doGo old l ByteArray.empty).2) ∧ Below w.heap.size w w' := by
  obtain ⟨a, cap, rfl, hc⟩ := h.at
  have HC := hidR hc
  have HR := hidR hr
  clear hc hr h
  unfold textO
  go_enter Try.func68, Try.ntmps68
  go_wp2
  go_loopw [5, 6] (fun o i wr => ∃ (k : Nat) (acc : ByteArray), k ≤ l.length ∧ i = .int .i64 k ∧ o = .string acc ∧ acc.size ≤ 80 * k ∧ Below w.heap.size w wr ∧ HasRow wr w.heap.size [.string ByteArray.empty, .int .i64 0, .int .i64 0] 58 ∧ Hid (doGo old (l.drop k) acc = doGo old l ByteArray.empty)) (fun _ i _ => 5 - (intOf i).toNat)
  case atStart => exact ⟨0, ByteArray.empty, by omega, rfl, rfl, by simp, (Below.refl _ _).alloc (Nat.le_refl _) _, Sha.row_new w [.string ByteArray.empty, .int .i64 0, .int .i64 0] _, rfl⟩
  case round =>
    obtain ⟨k, acc, hk, rfl, rfl, hacc, hbel, hrow, HD⟩ := hrel
    have o0 : wr.cell? ⟨w.heap.size, 0, none⟩ = some (.string ByteArray.empty) := Mem.cell_of_row hrow 0
    have o1 : wr.cell? ⟨w.heap.size, 1, none⟩ = some (.int .i64 0) := Mem.cell_of_row hrow 1
    have o2 : wr.cell? ⟨w.heap.size, 2, none⟩ = some (.int .i64 0) := Mem.cell_of_row hrow 2
    have of0 := Mem.frozen_of_row hrow 0
    have of1 := Mem.frozen_of_row hrow 1
    have of2 := Mem.frozen_of_row hrow 2
    have hlw : w.heap.size < wr.heap.size := World.block_lt_of_cell? wr _ o0
    have HROW := hidR hrow
    have HB := hidR hbel
    by_cases hlt : k < l.length
    · have p1 : (k : Int) < (l.length : Int) := by omega
      obtain ⟨b, o, rfl, d0, d1, d2⟩ := HC.out k hlt
      have c0 : wr.cell? ⟨b, o + k * 3, none⟩ = _ := (hbel.cell (World.block_lt_of_cell? w _ d0)).trans d0
      have c1 : wr.cell? ⟨b, o + k * 3 + 1, none⟩ = _ := (hbel.cell (World.block_lt_of_cell? w _ d1)).trans d1
      have c2 : wr.cell? ⟨b, o + k * 3 + 2, none⟩ = _ := (hbel.cell (World.block_lt_of_cell? w _ d2)).trans d2
      obtain ⟨b1, b2, b3, b4, b5⟩ := stepR_bd (HR.out _ (List.getElem_mem hlt))
      have hps := piece_size old b1 b3
      have HN : Hid (¬ (old.size : Int) < l[k].f + l[k].m → doGo old (l.drop (k + 1)) (acc ++ pieceOf old l[k] ++ l[k].t) = doGo old l ByteArray.empty) := fun h => (do_next hlt acc h).symm.trans HD.out
      have HG : Hid ((old.size : Int) < l[k].f + l[k].m → doGo old l ByteArray.empty = (ByteArray.empty, 8)) := fun h => HD.out.symm.trans (do_range hlt acc h)
      have HSL : Hid (¬ (old.size : Int) < l[k].f + l[k].m → ∀ W, (Instr.slice 9 (.string old) (some (.int .i64 l[k].f)) (some (.int .i64 (l[k].f + l[k].m))) none).run Try.prog W = .ok (.string (pieceOf old l[k])) W) := fun h W => slice_text old _ _ (by omega) (by omega) _ _ (by omega) (by omega) W
      generalize pieceOf old l[k] = pc at *
      generalize l[k].f = x0 at *
      generalize l[k].m = x1 at *
      generalize l[k].t = x2 at *
      clear d0 d1 d2 hbel hrow HD
      by_cases hrg : (old.size : Int) < x0 + x1
      · have HE := hidR (HG.out hrg)
        clear HN HG HSL
        go_wp2
        exact bodyPost_ret (v := .agg #[.string ByteArray.empty, .int .i64 0, .int .i64 8]) (by simp [results, Try.results68, go_sem, o0, o1, o2, hlw, World.cell?_alloc_lt, empty_lit]) rfl ⟨by rw [HE.out], balloc (((HB.out.setCell (p := ⟨w.heap.size, 0, none⟩) (Nat.le_refl _) _).setCell (p := ⟨w.heap.size, 1, none⟩) (Nat.le_refl _) _).setCell (p := ⟨w.heap.size, 2, none⟩) (Nat.le_refl _) _) _⟩
      · have HE := hidR (HN.out hrg)
        have hsl := HSL.out hrg
        have w1 : IntKind.i64.wrap (x0 + x1) = x0 + x1 := IntWalk.i64_in _ ⟨by omega, by omega⟩
        have z1 : ¬ 9223372036854775807 < acc.size + pc.size := by omega
        have z2 : ¬ 9223372036854775807 < (acc ++ pc).size + x2.size := by rw [ByteArray.size_append]; omega
        clear HN HG HSL
        go_wp2_with fail
        go_quiet (fail)
        go_wp2
        go_roundw
        case rel => exact ⟨k + 1, acc ++ pc ++ x2, by omega, by go_num, rfl, by rw [ByteArray.size_append, ByteArray.size_append]; omega, bel_d (balloc HB.out _) _, Sha.row_drewN (Sha.row_alloc HROW.out _) _, HE⟩
        case measure => simp [intOf]; omega
    · have e : k = l.length := by omega
      subst e
      have HE : Hid (doGo old l ByteArray.empty = if 80 < acc.size then (ByteArray.empty, 9) else (acc, 0)) := HD.out.symm.trans (do_end acc)
      clear HD hrow hbel
      by_cases h80 : 80 < acc.size
      · rw [if_pos h80] at HE
        have p2 : (80 : Int) < (acc.size : Int) := by omega
        go_wp2
        exact bodyPost_ret (v := .agg #[.string ByteArray.empty, .int .i64 0, .int .i64 9]) (by simp [results, Try.results68, go_sem, o0, o1, o2, empty_lit]) rfl ⟨by rw [HE.out], ((HB.out.setCell (p := ⟨w.heap.size, 0, none⟩) (Nat.le_refl _) _).setCell (p := ⟨w.heap.size, 1, none⟩) (Nat.le_refl _) _).setCell (p := ⟨w.heap.size, 2, none⟩) (Nat.le_refl _) _⟩
      · rw [if_neg h80] at HE
        have p2 : ¬ (80 : Int) < (acc.size : Int) := by omega
        go_wp2
        exact bodyPost_ret (v := .agg #[.string acc, .int .i64 0, .int .i64 0]) (by simp [results, Try.results68, go_sem, o0, o1, o2, empty_lit]) rfl ⟨by rw [HE.out], ((HB.out.setCell (p := ⟨w.heap.size, 0, none⟩) (Nat.le_refl _) _).setCell (p := ⟨w.heap.size, 1, none⟩) (Nat.le_refl _) _).setCell (p := ⟨w.heap.size, 2, none⟩) (Nat.le_refl _) _⟩
set_option maxRecDepth 100000 in
set_option maxHeartbeats 2000000 in
theorem specSD_any (old : ByteArray) (v : Value) (l : List Pc) (w : World) (h : Ls w v l) (ho : old.size ≤ maxLen) (hn : l.length ≤ maxLen) (hs : ∀ y ∈ l, okSz y) :
    Calls Try.prog 31 #[.string old, v] w fun e w' => e = .returned (textO (doO old l).1 (doO old l).2) ∧ Below w.heap.size w w' := by
  have KR := hidR (fun W (hW : Ls W v l) => specSteps_any v l W hW hn hs)
  have KD : Hid (old.size ≤ 80 → l.length ≤ 3 → (∀ x ∈ l, stepR x = true) → ∀ W, Ls W v l → Calls Try.prog 68 #[.string old, v] W fun e w' => e = .returned (.agg #[.string (doGo old l ByteArray.empty).1, .int .i64 0, .int .i64 (doGo old l ByteArray.empty).2]) ∧ Below W.heap.size W w') := fun h1 h2 h3 W hW => specDo_any old v l W hW h1 h2 h3
  have HF := hidR h
  obtain ⟨a, cap, rfl, _⟩ := h.at
  have HO : Hid (doO old l = if 8000 < old.size ∨ 400 < l.length then (ByteArray.empty, 2) else if 80 < old.size ∨ stepsR l = false then (ByteArray.empty, 1) else doGo old l ByteArray.empty) := rfl
  have HR0 := hidR (Sha.row_new w [.string ByteArray.empty, .int .i64 0, .int .i64 0] 58)
  have HB0 : Hid (Below w.heap.size w (w.alloc (.cells #[.string ByteArray.empty, .int .i64 0, .int .i64 0] 58))) := (Below.refl _ _).alloc (Nat.le_refl _) _
  unfold textO
  generalize doO old l = dO at *
  unfold maxLen at ho hn
  clear h
  by_cases h1 : 8000 < old.size
  · have p1 : (8000 : Int) < (old.size : Int) := by omega
    rw [if_pos (.inl h1)] at HO
    go_enter Try.func31, Try.ntmps31
    go_wp2
    exact bodyPost_ret (v := .agg #[.string ByteArray.empty, .int .i64 0, .int .i64 2]) (by simp [results, Try.results31, go_sem, empty_lit]) rfl ⟨by rw [HO.out], (Below.refl _ _).alloc (Nat.le_refl _) _⟩
  · have p1 : ¬ (8000 : Int) < (old.size : Int) := by omega
    by_cases h2 : 400 < l.length
    · have p2 : (400 : Int) < (l.length : Int) := by omega
      rw [if_pos (.inr h2)] at HO
      go_enter Try.func31, Try.ntmps31
      go_wp2
      exact bodyPost_ret (v := .agg #[.string ByteArray.empty, .int .i64 0, .int .i64 2]) (by simp [results, Try.results31, go_sem, empty_lit]) rfl ⟨by rw [HO.out], (Below.refl _ _).alloc (Nat.le_refl _) _⟩
    · have p2 : ¬ (400 : Int) < (l.length : Int) := by omega
      rw [if_neg (by omega)] at HO
      by_cases h3 : 80 < old.size
      · have p3 : (80 : Int) < (old.size : Int) := by omega
        rw [if_pos (.inl h3)] at HO
        go_enter Try.func31, Try.ntmps31
        go_wp2
        exact bodyPost_ret (v := .agg #[.string ByteArray.empty, .int .i64 0, .int .i64 1]) (by simp [results, Try.results31, go_sem, empty_lit]) rfl ⟨by rw [HO.out], (Below.refl _ _).alloc (Nat.le_refl _) _⟩
      · have p3 : ¬ (80 : Int) < (old.size : Int) := by omega
        have HRL : Hid (stepsR l = true → l.length ≤ 3 ∧ ∀ x ∈ l, stepR x = true) := fun h => ⟨stepsR_len h, stepsR_at h⟩
        generalize stepsR l = z at *
        cases z
        · rw [if_pos (.inr rfl)] at HO
          clear HRL KD
          go_enter Try.func31, Try.ntmps31
          go_wp2_with fail
          refine (KR.out _ (HF.out.below ((Below.refl _ _).alloc (Nat.le_refl _) _))).mono ?_
          rintro e w1 ⟨rfl, hb1⟩
          have hr1 := Sha.row_below HR0.out hb1 (by simp)
          have o0 : w1.cell? ⟨w.heap.size, 0, none⟩ = some (.string ByteArray.empty) := Mem.cell_of_row hr1 0
          have o1 : w1.cell? ⟨w.heap.size, 1, none⟩ = some (.int .i64 0) := Mem.cell_of_row hr1 1
          have o2 : w1.cell? ⟨w.heap.size, 2, none⟩ = some (.int .i64 0) := Mem.cell_of_row hr1 2
          have of0 := Mem.frozen_of_row hr1 0
          have of1 := Mem.frozen_of_row hr1 1
          have of2 := Mem.frozen_of_row hr1 2
          have HB := hidR (bstep HB0.out hb1)
          clear hr1 hb1
          go_wp2
          exact bodyPost_ret (v := .agg #[.string ByteArray.empty, .int .i64 0, .int .i64 1]) (by simp [results, Try.results31, go_sem, o0, o1, o2, empty_lit]) rfl ⟨by rw [HO.out], ((HB.out.setCell (p := ⟨w.heap.size, 0, none⟩) (Nat.le_refl _) _).setCell (p := ⟨w.heap.size, 1, none⟩) (Nat.le_refl _) _).setCell (p := ⟨w.heap.size, 2, none⟩) (Nat.le_refl _) _⟩
        · rw [if_neg (by simp; omega)] at HO
          obtain ⟨hl3, hst⟩ := HRL.out rfl
          have KD' := hidR (KD.out (by omega) hl3 hst)
          clear HRL KD hst
          generalize doGo old l ByteArray.empty = dG at *
          go_enter Try.func31, Try.ntmps31
          go_wp2_with fail
          refine (KR.out _ (HF.out.below ((Below.refl _ _).alloc (Nat.le_refl _) _))).mono ?_
          rintro e w1 ⟨rfl, hb1⟩
          have HB := hidR (bstep HB0.out hb1)
          have HR1 := hidR (Sha.row_below HR0.out hb1 (by simp))
          have HF1 := hidR ((HF.out.below ((Below.refl w.heap.size w).alloc (Nat.le_refl _) (.cells #[.string ByteArray.empty, .int .i64 0, .int .i64 0] 58))).below hb1)
          have hlw : w.heap.size < w1.heap.size := by have := hb1.size; simp at this; omega
          clear hb1 HB0 HR0 HF
          go_wp2_with fail
          refine (KD'.out _ HF1.out).mono ?_
          rintro e w2 ⟨rfl, hb2⟩
          have hr1 := Sha.row_below HR1.out hb2 hlw
          have o0 : w2.cell? ⟨w.heap.size, 0, none⟩ = some (.string ByteArray.empty) := Mem.cell_of_row hr1 0
          have o1 : w2.cell? ⟨w.heap.size, 1, none⟩ = some (.int .i64 0) := Mem.cell_of_row hr1 1
          have o2 : w2.cell? ⟨w.heap.size, 2, none⟩ = some (.int .i64 0) := Mem.cell_of_row hr1 2
          have of0 := Mem.frozen_of_row hr1 0
          have of1 := Mem.frozen_of_row hr1 1
          have of2 := Mem.frozen_of_row hr1 2
          have HB2 := hidR (bstep HB.out hb2)
          clear hr1 hb2 HB
          go_wp2
          exact bodyPost_ret (v := .agg #[.string dG.1, .int .i64 0, .int .i64 dG.2]) (by simp [results, Try.results31, go_sem, o0, o1, o2, empty_lit]) rfl ⟨by rw [HO.out], ((HB2.out.setCell (p := ⟨w.heap.size, 0, none⟩) (Nat.le_refl _) _).setCell (p := ⟨w.heap.size, 1, none⟩) (Nat.le_refl _) _).setCell (p := ⟨w.heap.size, 2, none⟩) (Nat.le_refl _) _⟩
end Go.Proofs.Ytfpgobkedfhakaa.Del
