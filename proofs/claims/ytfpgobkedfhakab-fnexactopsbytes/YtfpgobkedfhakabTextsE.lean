/- Laws that the proof rests on, put together: Which lists of steps are right: the model's answer and the program's. What the program's look at a tree answers. Op, each with a list of Step, and lists of them, that came in, opened. -/
import Derived.Test.YtfpgobkedfhakabStepsRight
import Derived.Test.YtfpgobkedfhakabTextsD
import Derived.Test.YtfpgobkedfhakabImplPath
import Derived.Test.YtfpgobkedfhakabHarnOp
/- Which lists of steps are right: the model's answer and the program's. -/
namespace Go.Proofs.Ytfpgobkedfhakab.Del
open Go.RowKit Go.Proofs.Ytfpgobkedfhakab.Mem Go.Proofs.Ytfpgobkedfhakab.Mark Go.Proofs.Ytfpgobkedfhakab.Harn Go.Proofs.Ytfpgobkedfhakab.Rws Go.Proofs.Ytfpgobkedfhakab.Gf

theorem stepsR_bad {l : List Pc} {k : Nat} (hk : k < l.length) (h : stepR l[k] = false) : stepsR l = false := by
  unfold stepsR
  rw [Bool.and_eq_false_iff]
  refine .inr ?_
  rw [List.all_eq_false]
  exact ⟨_, List.getElem_mem hk, by rw [h]; decide⟩
theorem stepsR_ok {l : List Pc} (hl : l.length ≤ 3) (h : ∀ j (hj : j < l.length), stepR l[j] = true) : stepsR l = true := by
  unfold stepsR
  rw [decide_eq_true hl, Bool.true_and, List.all_eq_true]
  intro x hx
  obtain ⟨j, hj, rfl⟩ := List.getElem_of_mem hx
  exact h j hj
theorem stepsR_big {l : List Pc} (hl : ¬ l.length ≤ 3) : stepsR l = false := by unfold stepsR; simp [hl]
theorem stepsR_len {l : List Pc} (h : stepsR l = true) : l.length ≤ 3 := by
  rcases Nat.lt_or_ge 3 l.length with h2 | h2
  · rw [stepsR_big (by omega)] at h; cases h
  · exact h2
theorem stepsR_at {l : List Pc} (h : stepsR l = true) : ∀ x ∈ l, stepR x = true := by
  unfold stepsR at h
  simp only [Bool.and_eq_true, List.all_eq_true] at h
  exact h.2
set_option maxHeartbeats 1000000 in
theorem specSteps_any (v : Value) (l : List Pc) (w : World) (h : Ls w v l) (hn : l.length ≤ maxLen) (hs : ∀ y ∈ l, okSz y) :
    Calls Try.prog 30 #[v] w fun e w' => e = .returned (.bool (stepsR l)) ∧ Below w.heap.size w w' := by
  obtain ⟨a, cap, rfl, hc⟩ := h.at
  have HC := hidR hc
  have HSS := hidR hs
  unfold maxLen at hn
  clear hc h hs
  go_enter Try.func30, Try.ntmps30
  go_wp2
  go_loopw [3] (fun i wr => ∃ k : Nat, k ≤ l.length ∧ k ≤ 4 ∧ i = .int .i64 k ∧ Below w.heap.size w wr ∧ Hid (∀ j (hj : j < l.length), j < k → stepR l[j] = true)) (fun i _ => 5 - (intOf i).toNat)
  case atStart => exact ⟨0, by omega, by omega, rfl, Below.refl _ _, fun j _ h => by omega⟩
  case round =>
    obtain ⟨k, hk, hk4, rfl, hbel, HR⟩ := hrel
    by_cases hlt : k < l.length
    · have p1 : (k : Int) < (l.length : Int) := by omega
      by_cases h3 : k ≤ 3
      · have p2 : (k : Int) ≤ 3 := by omega
        obtain ⟨b, o, rfl, d0, d1, d2⟩ := HC.out k hlt
        have c0 : wr.cell? ⟨b, o + k * 3, none⟩ = _ := (hbel.cell (World.block_lt_of_cell? w _ d0)).trans d0
        have c1 : wr.cell? ⟨b, o + k * 3 + 1, none⟩ = _ := (hbel.cell (World.block_lt_of_cell? w _ d1)).trans d1
        have c2 : wr.cell? ⟨b, o + k * 3 + 2, none⟩ = _ := (hbel.cell (World.block_lt_of_cell? w _ d2)).trans d2
        have KS : Hid (∀ W, Calls Try.prog 37 #[.agg #[.int .i64 l[k].f, .int .i64 l[k].m, .string l[k].t]] W fun e w' => e = .returned (.bool (stepR l[k])) ∧ Below W.heap.size W w') := fun W => specStep_any l[k] W (HSS.out _ (List.getElem_mem hlt))
        have HBAD : Hid (stepR l[k] = false → stepsR l = false) := stepsR_bad hlt
        have HOK : Hid (stepR l[k] = true → ∀ j (hj : j < l.length), j < k + 1 → stepR l[j] = true) := fun h j hj hjk => by
          by_cases e : j = k
          · subst e; exact h
          · exact HR.out j hj (by omega)
        generalize stepR l[k] = z at *
        generalize l[k].f = x0 at *
        generalize l[k].m = x1 at *
        generalize l[k].t = x2 at *
        have HB := hidR hbel
        clear d0 d1 d2 hbel HR
        cases z
        · have HN := hidR (HBAD.out rfl)
          clear HBAD HOK
          go_wp2_with (go_at_call 37; refine (KS.out _).mono ?_; rintro e w1 ⟨rfl, hb1⟩)
          go_ret
          exact ⟨by rw [HN.out]; rfl, HB.out.trans (hb1.mono HB.out.size)⟩
        · have HN := hidR (HOK.out rfl)
          clear HBAD HOK
          go_wp2_with (go_at_call 37; refine (KS.out _).mono ?_; rintro e w1 ⟨rfl, hb1⟩)
          go_roundw
          case rel => exact ⟨k + 1, by omega, by omega, by go_num, HB.out.trans (hb1.mono HB.out.size), HN⟩
          case measure => simp [intOf]; omega
      · have p2 : ¬ (k : Int) ≤ 3 := by omega
        have p3 : ¬ (l.length : Int) ≤ 3 := by omega
        have HN := hidR (stepsR_big (l := l) (by omega))
        have HB := hidR hbel
        clear hbel HR
        go_wp2
        go_ret
        exact ⟨by rw [HN.out]; rfl, HB.out⟩
    · have e : k = l.length := by omega
      subst e
      have HB := hidR hbel
      have HN : Hid (l.length ≤ 3 → stepsR l = true) := fun h => stepsR_ok h (fun j hj => HR.out j hj hj)
      have HM : Hid (¬ l.length ≤ 3 → stepsR l = false) := stepsR_big
      clear hbel HR
      by_cases h3 : l.length ≤ 3
      · have p3 : (l.length : Int) ≤ 3 := by omega
        have HN' := hidR (HN.out h3)
        clear HN HM
        go_wp2
        go_ret
        exact ⟨by rw [HN'.out]; rfl, HB.out⟩
      · have p3 : ¬ (l.length : Int) ≤ 3 := by omega
        have HN' := hidR (HM.out h3)
        clear HN HM
        go_wp2
        go_ret
        exact ⟨by rw [HN'.out]; rfl, HB.out⟩
set_option maxHeartbeats 1000000 in
theorem implSteps_any (v : Value) (l : List Pc) (w : World) (h : Ls w v l) (hn : l.length ≤ maxLen) (hs : ∀ y ∈ l, okSz y) :
    Calls Try.prog 64 #[v] w fun e w' => e = .returned (.bool (stepsR l)) ∧ Below w.heap.size w w' := by
  obtain ⟨a, cap, rfl, hc⟩ := h.at
  have HC := hidR hc
  have HSS := hidR hs
  unfold maxLen at hn
  clear hc h hs
  by_cases hb3 : l.length ≤ 3
  · have p3 : (l.length : Int) ≤ 3 := by omega
    go_enter Try.func64, Try.ntmps64
    go_wp2
    go_loopw [10] (fun i wr => ∃ k : Nat, k ≤ l.length ∧ i = .int .i64 k ∧ Below w.heap.size w wr ∧ Hid (∀ j (hj : j < l.length), j < k → stepR l[j] = true)) (fun i _ => 5 - (intOf i).toNat)
    case atStart => exact ⟨0, by omega, rfl, Below.refl _ _, fun j _ h => by omega⟩
    case round =>
      obtain ⟨k, hk, rfl, hbel, HR⟩ := hrel
      by_cases hlt : k < l.length
      · have p1 : (k : Int) < (l.length : Int) := by omega
        obtain ⟨b, o, rfl, d0, d1, d2⟩ := HC.out k hlt
        have c0 : wr.cell? ⟨b, o + k * 3, none⟩ = _ := (hbel.cell (World.block_lt_of_cell? w _ d0)).trans d0
        have c1 : wr.cell? ⟨b, o + k * 3 + 1, none⟩ = _ := (hbel.cell (World.block_lt_of_cell? w _ d1)).trans d1
        have c2 : wr.cell? ⟨b, o + k * 3 + 2, none⟩ = _ := (hbel.cell (World.block_lt_of_cell? w _ d2)).trans d2
        have KS : Hid (∀ W, Calls Try.prog 65 #[.agg #[.int .i64 l[k].f, .int .i64 l[k].m, .string l[k].t]] W fun e w' => e = .returned (.bool (stepR l[k])) ∧ Below W.heap.size W w') := fun W => implStep_any l[k] W (HSS.out _ (List.getElem_mem hlt))
        have HBAD : Hid (stepR l[k] = false → stepsR l = false) := stepsR_bad hlt
        have HOK : Hid (stepR l[k] = true → ∀ j (hj : j < l.length), j < k + 1 → stepR l[j] = true) := fun h j hj hjk => by
          by_cases e : j = k
          · subst e; exact h
          · exact HR.out j hj (by omega)
        generalize stepR l[k] = z at *
        generalize l[k].f = x0 at *
        generalize l[k].m = x1 at *
        generalize l[k].t = x2 at *
        have HB := hidR (balloc hbel (.cells #[.int .i64 x0, .int .i64 x1, .string x2] 42))
        clear d0 d1 d2 hbel HR
        cases z
        · have HN := hidR (HBAD.out rfl)
          clear HBAD HOK
          go_wp2_with (go_at_call 65; refine (KS.out _).mono ?_; rintro e w1 ⟨rfl, hb1⟩)
          go_ret
          exact ⟨by rw [HN.out]; rfl, HB.out.trans (hb1.mono HB.out.size)⟩
        · have HN := hidR (HOK.out rfl)
          clear HBAD HOK
          go_wp2_with (go_at_call 65; refine (KS.out _).mono ?_; rintro e w1 ⟨rfl, hb1⟩)
          go_roundw
          case rel => exact ⟨k + 1, by omega, by go_num, HB.out.trans (hb1.mono HB.out.size), HN⟩
          case measure => simp [intOf]; omega
      · have e : k = l.length := by omega
        subst e
        have HB := hidR hbel
        have HN := hidR (stepsR_ok hb3 (fun j hj => HR.out j hj hj))
        clear hbel HR
        go_wp2
        go_ret
        exact ⟨by rw [HN.out]; rfl, HB.out⟩
  · have p3 : ¬ (l.length : Int) ≤ 3 := by omega
    have HN := hidR (stepsR_big hb3)
    go_enter Try.func64, Try.ntmps64
    go_wp2
    go_ret
    exact ⟨by rw [HN.out]; rfl, Below.refl _ _⟩
end Go.Proofs.Ytfpgobkedfhakab.Del

/- What the program's look at a tree answers. -/
namespace Go.Proofs.Ytfpgobkedfhakab.Tre
open Go.RowKit Go.Proofs.Ytfpgobkedfhakab.Mem Go.Proofs.Ytfpgobkedfhakab.Gf Go.Proofs.Ytfpgobkedfhakab.Harn Go.Proofs.Ytfpgobkedfhakab.Mark

set_option maxHeartbeats 1000000 in
theorem implFile_any (f : Fl) (w : World) (hd : f.d.size ≤ maxLen) : Calls Try.prog 56 #[f.val] w fun e w' => e = .returned (.bool (fileR f)) ∧ Below w.heap.size w w' := by
  have K1 : Hid (∀ W, Calls Try.prog 57 #[.string f.p] W fun e w' => e = .returned (.bool (pathR f.p)) ∧ Below W.heap.size W w') := fun W => implPath_any f.p W
  unfold fileR
  obtain ⟨p, m, d⟩ := f
  unfold Fl.val
  dsimp only at *
  unfold maxLen at hd
  have e3 : decide (d.size ≤ 80) = decide ((d.size : Int) ≤ 80) := decide_eq_decide.2 (by omega)
  rw [e3]
  clear e3
  generalize pathR p = z1 at *
  cases z1
  · go_enter Try.func56, Try.ntmps56
    go_wp2_with (go_at_call 57; refine (K1.out _).mono ?_; rintro e w1 ⟨rfl, hb1⟩; obtain ⟨hcc, hff⟩ := bcell hb1; simp at hcc hff)
    go_ret
    exact ⟨rfl, bstep ((Below.refl _ _).alloc (Nat.le_refl _) _) hb1⟩
  · by_cases h0 : 0 ≤ m
    · go_enter Try.func56, Try.ntmps56
      go_wp2_with (go_at_call 57; refine (K1.out _).mono ?_; rintro e w1 ⟨rfl, hb1⟩; obtain ⟨hcc, hff⟩ := bcell hb1; simp at hcc hff)
      all_goals go_ret
      all_goals (refine ⟨ret_b ?_, bstep ((Below.refl _ _).alloc (Nat.le_refl _) _) hb1⟩; rw [Bool.eq_iff_iff]; simp <;> omega)
    · go_enter Try.func56, Try.ntmps56
      go_wp2_with (go_at_call 57; refine (K1.out _).mono ?_; rintro e w1 ⟨rfl, hb1⟩; obtain ⟨hcc, hff⟩ := bcell hb1; simp at hcc hff)
      all_goals go_ret
      all_goals (refine ⟨ret_b ?_, bstep ((Below.refl _ _).alloc (Nat.le_refl _) _) hb1⟩; rw [Bool.eq_iff_iff]; simp <;> omega)

theorem ahead_cut {a b : ByteArray} (h : a.size < b.size) : ahead a b = ((b.extract 0 (a.size + 1)).toList == (a ++ (⟨#[47]⟩ : ByteArray)).toList) := by
  have e1 : (a ++ (⟨#[47]⟩ : ByteArray)).data.toList = a.data.toList ++ [47] := by simp
  unfold ahead
  rw [Lib.toList_data, Lib.toList_data, e1, decide_eq_true h, Bool.true_and]
  rw [Bool.eq_iff_iff]
  simp
end Go.Proofs.Ytfpgobkedfhakab.Tre

/- Op, each with a list of Step, and lists of them, that came in, opened. -/
namespace Go.Proofs.Ytfpgobkedfhakab.Ops
open Go.ChangeShapes Go.WideShapes Go.ChangeAt Go.RowKit Go.Deep Go.Proofs.Ytfpgobkedfhakab.Harn
variable {H : Type} {enc : TypeId × Value → H}

def okIn (x : Ox) : Prop := (-9223372036854775808 ≤ x.k ∧ x.k ≤ 9223372036854775807) ∧ x.p.size ≤ maxLen ∧ (-9223372036854775808 ≤ x.m ∧ x.m ≤ 9223372036854775807) ∧ x.d.size ≤ maxLen ∧ x.s.length ≤ maxLen ∧ ∀ y ∈ x.s, Del.okIn y
set_option maxRecDepth 100000 in
theorem open_cells {W : World} {sp : Nat → Bool} {fuel : Nat} {cs : List Value} {x : DataW H × List MemPlace} (hl : cs.length = 5) (h : DataW.trod enc Try.prog W 0 sp true fuel 32 cs = some x) :
    ∃ (f : Ox) (vs : Value), cs = f.row vs ∧ Del.Ls W vs f.s ∧ okIn f := by
  have k1 : Try.prog.cellsOf 2 = 1 := by kernel_rfl
  have k3 : Try.prog.cellsOf 9 = 1 := by kernel_rfl
  have k5 : Try.prog.cellsOf 30 = 1 := by kernel_rfl
  obtain ⟨c0, c1, c2, c3, c4, rfl⟩ := listN hl
  obtain ⟨xs, n, _, _, _, hlen, hf⟩ := DataW.trod_struct Try.underlying32 h
  obtain ⟨y0, y1, y2, y3, y4, rfl⟩ := listN (hlen.trans rfl)
  have h0 : DataW.trod enc Try.prog W 0 sp true n 2 (([c0, c1, c2, c3, c4].drop 0).take (Try.prog.cellsOf 2)) = some y0 := hf 0 _ rfl
  have h1 : DataW.trod enc Try.prog W 0 sp true n 9 (([c0, c1, c2, c3, c4].drop 1).take (Try.prog.cellsOf 9)) = some y1 := hf 1 _ rfl
  have h2 : DataW.trod enc Try.prog W 0 sp true n 2 (([c0, c1, c2, c3, c4].drop 2).take (Try.prog.cellsOf 2)) = some y2 := hf 2 _ rfl
  have h3 : DataW.trod enc Try.prog W 0 sp true n 9 (([c0, c1, c2, c3, c4].drop 3).take (Try.prog.cellsOf 9)) = some y3 := hf 3 _ rfl
  have h4 : DataW.trod enc Try.prog W 0 sp true n 30 (([c0, c1, c2, c3, c4].drop 4).take (Try.prog.cellsOf 30)) = some y4 := hf 4 _ rfl
  rw [k1] at h0
  rw [k3] at h1
  rw [k1] at h2
  rw [k3] at h3
  rw [k5] at h4
  obtain ⟨v0, e0, _, b0⟩ := DataW.trod_int Try.underlying2 h0
  obtain ⟨v1, e1, _, b1⟩ := DataW.trod_string Try.underlying9 h1
  obtain ⟨v2, e2, _, b2⟩ := DataW.trod_int Try.underlying2 h2
  obtain ⟨v3, e3, _, b3⟩ := DataW.trod_string Try.underlying9 h3
  obtain ⟨l, q1, q2, q3⟩ := Del.open_list_at h4
  simp at e0 e1 e2 e3
  subst e0 e1 e2 e3
  exact ⟨⟨v0, v1, v2, v3, l⟩, c4, rfl, q1, ⟨(bounds_i64 b0).1, (bounds_i64 b0).2⟩, b1, ⟨(bounds_i64 b2).1, (bounds_i64 b2).2⟩, b3, q2, q3⟩
set_option maxRecDepth 100000 in
theorem open_list_at {W : World} {sp : Nat → Bool} {fuel : Nat} {v : Value} {x : DataW H × List MemPlace}
    (h : DataW.trod enc Try.prog W 0 sp true fuel 22 [v] = some x) : ∃ l, Ls W v l ∧ l.length ≤ maxLen ∧ ∀ y ∈ l, okIn y := by
  have ce : Try.prog.cellsOf 32 = 5 := by kernel_rfl
  rcases open_slice Try.underlying22 h with ⟨hcs, _⟩ | ⟨a, len, cap, m, n, D, Pl, hcs, hb, hl, hm, hmm, _, hx⟩
  · simp at hcs
    exact ⟨[], ⟨none, 0, hcs, fun j hj => by simp at hj⟩, by simp, by simp⟩
  · simp at hcs
    have hlm : len ≤ m := by rw [hmm]; split <;> omega
    have each : ∀ i, i < len → ∃ f : Ox, (∃ vs, (∀ q (_ : q < 5), ∃ u, (f.row vs)[q]? = some u ∧ W.cell? (a.add (i * 5 + q)) = some u) ∧ Del.Ls W vs f.s) ∧ okIn f := by
      intro i hi
      obtain ⟨cs', h1, h2⟩ := hx i (by omega)
      rw [ce] at h1
      obtain ⟨_, hlen, hcell⟩ := World.cells?_some h1
      obtain ⟨f, vs, rfl, hq, hf⟩ := open_cells hlen h2
      refine ⟨f, ⟨vs, fun q hq => ?_, hq⟩, hf⟩
      have := hcell q hq
      rw [add_add] at this
      have e := List.getElem?_eq_getElem (l := f.row vs) (i := q) (by rw [hlen]; exact hq)
      exact ⟨_, e, this.trans e⟩
    have : Inhabited Ox := ⟨⟨0, ByteArray.empty, 0, ByteArray.empty, []⟩⟩
    obtain ⟨g, hg⟩ := choose_lt each
    refine ⟨(List.range len).map g, ⟨some a, cap, by simpa using hcs, fun j hj => ?_⟩, by simp; omega, fun y hy => ?_⟩
    · have hj2 : j < len := by simpa using hj
      obtain ⟨⟨_, hz, _⟩, _⟩ := hg 0 (by omega)
      obtain ⟨u0, _, hu0⟩ := hz 0 (by omega)
      obtain ⟨a1, a2⟩ := at_none hu0
      obtain ⟨⟨vs, hq, hls⟩, _⟩ := hg j hj2
      refine ⟨a.block, a.off, vs, by rw [← a1], ?_, ?_, ?_, ?_, ?_, by simpa using hls⟩
      · obtain ⟨u, h1, h2⟩ := hq 0 (by omega)
        simp [Ox.row] at h1
        subst h1
        rw [← a2]; simpa using h2
      · obtain ⟨u, h1, h2⟩ := hq 1 (by omega)
        simp [Ox.row] at h1
        subst h1
        rw [Nat.add_assoc]; rw [← a2]; simpa using h2
      · obtain ⟨u, h1, h2⟩ := hq 2 (by omega)
        simp [Ox.row] at h1
        subst h1
        rw [Nat.add_assoc]; rw [← a2]; simpa using h2
      · obtain ⟨u, h1, h2⟩ := hq 3 (by omega)
        simp [Ox.row] at h1
        subst h1
        rw [Nat.add_assoc]; rw [← a2]; simpa using h2
      · obtain ⟨u, h1, h2⟩ := hq 4 (by omega)
        simp [Ox.row] at h1
        subst h1
        rw [Nat.add_assoc]; rw [← a2]; simpa using h2
    · simp only [List.mem_map, List.mem_range] at hy
      obtain ⟨i, hi, rfl⟩ := hy
      exact (hg i hi).2
set_option maxRecDepth 100000 in
theorem open_list {W : World} {b0 : Nat} {v : Value} {d : DataW H} {ps : List MemPlace} (hv : Value.okWide Try.prog W .any b0 22 v) (h : DataW.Trod enc Try.prog W 0 (fun _ => true) true 22 v d ps) :
    ∃ l, Ls W v l ∧ l.length ≤ maxLen ∧ ∀ y ∈ l, okIn y := by
  obtain ⟨a, len, cap, rfl⟩ := okWide_slice Try.underlying22 hv
  obtain ⟨fuel, hf⟩ := h
  exact open_list_at hf
theorem okSz_of {l : List Ox} (h : ∀ y ∈ l, okIn y) : ∀ y ∈ l, okSz y := fun y hy => by
  have := h y hy
  unfold okIn at this
  exact ⟨this.2.1, this.2.2.2.1, this.2.2.2.2.1, fun q hq => by have h2 := this.2.2.2.2.2 q hq; unfold Del.okIn at h2; unfold Del.okSz; simp_all⟩
end Go.Proofs.Ytfpgobkedfhakab.Ops
