/- What the model's look at a tree answers. -/
import Derived.Test.YtfpgobkedfhakaaSpecPath
import Derived.Test.YtfpgobkedfhakaaHarnTree
import Derived.Deep.RegionHeld3
import Derived.Test.YtfpgobkedfhakaaCutCall
namespace Go.Proofs.Ytfpgobkedfhakaa.Tre
open Go.RowKit Go.Proofs.Ytfpgobkedfhakaa.Mem Go.Proofs.Ytfpgobkedfhakaa.Gf Go.Proofs.Ytfpgobkedfhakaa.Harn Go.Proofs.Ytfpgobkedfhakaa.Mark

theorem ahead_no {a b : ByteArray} (h : ¬ a.size < b.size) : ahead a b = false := by unfold ahead; simp [h]
theorem ahead_at {a b : ByteArray} (h : a.size < b.size) : ahead a b = ((b.extract 0 a.size).toList == a.toList && ((((b[a.size]'h).toNat : Nat) : Int) == 47)) := by
  have e1 : b.data.toList.take (a.size + 1) = b.data.toList.take a.size ++ [b[a.size]'h] := List.take_succ_eq_append_getElem h
  have e2 : (b.extract 0 a.size).toList = b.data.toList.take a.size := by rw [Lib.toList_data]; simp
  unfold ahead
  rw [decide_eq_true h, Bool.true_and, e1, e2, Lib.toList_data]
  rw [Bool.eq_iff_iff]
  simp only [decide_eq_true_eq, Bool.and_eq_true, beq_iff_eq]
  constructor
  · intro he
    have := List.append_inj' he rfl
    refine ⟨this.1, ?_⟩
    have h2 : b[a.size]'h = 47 := by simpa using this.2
    rw [h2]; rfl
  · rintro ⟨h1, h2⟩
    rw [h1]
    congr 2
    apply UInt8.toNat_inj.1
    exact Int.ofNat.inj h2
set_option maxHeartbeats 1000000 in
theorem ahead_any (a b : ByteArray) (w : World) : Calls Try.prog 104 #[.string a, .string b] w fun e w' => e = .returned (.bool (ahead a b)) ∧ w' = w := by
  by_cases h : a.size < b.size
  · have h' : (a.size : Int) < (b.size : Int) := by omega
    have h2 : (a.size : Int) ≤ (b.size : Int) := by omega
    rw [ahead_at h]
    cases h3 : ((b.extract 0 a.size).toList == a.toList) <;> cases h4 : ((((b[a.size]'h).toNat : Nat) : Int) == 47)
    all_goals
      go_enter Try.func104, Try.ntmps104
      go_wp2
      go_ret
      exact ⟨rfl, rfl⟩
  · rw [ahead_no h]
    have h' : ¬ (a.size : Int) < (b.size : Int) := by omega
    go_enter Try.func104, Try.ntmps104
    go_wp2
    go_ret
    exact ⟨rfl, rfl⟩
set_option maxHeartbeats 1000000 in
theorem cross_any (a b : ByteArray) (w : World) : Calls Try.prog 81 #[.string a, .string b] w fun e w' => e = .returned (.bool (cross a b)) ∧ Below w.heap.size w w' := by
  have K1 : Hid (∀ W, Calls Try.prog 104 #[.string a, .string b] W fun e w' => e = .returned (.bool (ahead a b)) ∧ w' = W) := fun W => ahead_any a b W
  have K2 : Hid (∀ W, Calls Try.prog 104 #[.string b, .string a] W fun e w' => e = .returned (.bool (ahead b a)) ∧ w' = W) := fun W => ahead_any b a W
  unfold cross
  generalize ahead a b = z1 at *
  generalize ahead b a = z2 at *
  cases z1 <;> cases z2
  all_goals
    go_enter Try.func81, Try.ntmps81
    go_wp2_with fail
    refine (K1.out _).mono ?_
    rintro e w1 ⟨rfl, rfl⟩
    go_wp2_with fail
    first
      | (go_ret; exact ⟨rfl, Below.refl _ _⟩)
      | (refine (K2.out _).mono ?_; rintro e w2 ⟨rfl, rfl⟩; go_wp2; go_ret; exact ⟨rfl, Below.refl _ _⟩)
set_option maxHeartbeats 1000000 in
theorem specFile_any (f : Fl) (w : World) (hd : f.d.size ≤ maxLen) : Calls Try.prog 43 #[f.val] w fun e w' => e = .returned (.bool (fileR f)) ∧ Below w.heap.size w w' := by
  have K1 : Hid (∀ W, Calls Try.prog 82 #[.string f.p] W fun e w' => e = .returned (.bool (pathR f.p)) ∧ Below W.heap.size W w') := fun W => specPath_any f.p W
  have K2 : Hid (∀ W, Calls Try.prog 83 #[.int .i64 f.m, .int .i64 0, .int .i64 511] W fun e w' => e = .returned (.bool (isB f.m 0 511)) ∧ W = w') := fun W => l05Is_any f.m 0 511 W
  unfold fileR
  have e2 : isB f.m 0 511 = (decide (0 ≤ f.m) && decide (f.m ≤ 511)) := by simp [isB]
  rw [← e2]
  obtain ⟨p, m, d⟩ := f
  unfold Fl.val
  dsimp only at *
  unfold maxLen at hd
  have e3 : decide (d.size ≤ 80) = decide ((d.size : Int) ≤ 80) := decide_eq_decide.2 (by omega)
  rw [e3]
  clear e2 e3
  generalize pathR p = z1 at *
  generalize isB m 0 511 = z2 at *
  cases z1 <;> cases z2
  all_goals
    go_enter Try.func43, Try.ntmps43
    go_wp2_with (first | (go_at_call 82; refine (K1.out _).mono ?_; rintro e w1 ⟨rfl, hb1⟩; obtain ⟨hcc, hff⟩ := bcell hb1; simp at hcc hff) | (go_at_call 83; refine (K2.out _).mono ?_; rintro e w1 ⟨rfl, rfl⟩))
    go_ret
    exact ⟨rfl, bstep ((Below.refl _ _).alloc (Nat.le_refl _) _) hb1⟩

theorem geq_run (u x : ByteArray) : ∀ W, (binOp BinOp.geq 9 (Value.string u) (Value.string x)).run Try.prog W = .ok (.bool (!ltT u x)) W := fun W => by
  simp [binOp, Op.stringOp, Lib.toList_data, ltT]
theorem lss_run (u x : ByteArray) : ∀ W, (binOp BinOp.lss 9 (Value.string u) (Value.string x)).run Try.prog W = .ok (.bool (ltT u x)) W := fun W => by
  simp [binOp, Op.stringOp, Lib.toList_data, ltT]
theorem leq_run (u x : ByteArray) : ∀ W, (binOp BinOp.leq 9 (Value.string u) (Value.string x)).run Try.prog W = .ok (.bool (!ltT x u)) W := fun W => by
  rw [← leq_total]
  simp [binOp, Op.stringOp, Lib.toList_data]
theorem file_call {l : List Fl} {k : Nat} (h : k < l.length) (hs : ∀ y ∈ l, y.p.size ≤ maxLen ∧ y.d.size ≤ maxLen) : ∀ W, Calls Try.prog 43 #[.agg #[.string l[k].p, .int .i64 l[k].m, .string l[k].d]] W fun e w' => e = .returned (.bool (fileR l[k])) ∧ Below W.heap.size W w' := fun W => specFile_any l[k] W (hs _ (List.getElem_mem h)).2

set_option maxRecDepth 100000 in
set_option maxHeartbeats 2000000 in
theorem specTR_any (v : Value) (l : List Fl) (w : World) (h : Files w v l) (hn : l.length ≤ maxLen) (hs : ∀ y ∈ l, y.p.size ≤ maxLen ∧ y.d.size ≤ maxLen) :
    Calls Try.prog 42 #[.agg #[v]] w fun e w' => e = .returned (.bool (treeR l)) ∧ Below w.heap.size w w' := by
  obtain ⟨a, cap, rfl, hc⟩ := h
  unfold maxLen at hn
  by_cases h6 : l.length ≤ 6
  · have HC : Hid (RC w a l) := hc
    have HS := hidT hs
    have h6' : (l.length : Int) ≤ 6 := by omega
    clear hc hs hn
    go_enter Try.func42, Try.ntmps42
    go_wp2
    go_loopw [3] (fun i wr => ∃ k : Nat, k ≤ l.length ∧ i = .int .i64 k ∧ Below w.heap.size w wr ∧ wr.cell? ⟨w.heap.size, 0, none⟩ = some (.slice a l.length cap) ∧ Hid (∀ j (h : j < l.length), j < k → goodAt l j h = true)) (fun i _ => l.length - (intOf i).toNat)
    case atStart => exact ⟨0, Nat.zero_le _, rfl, (Below.refl _ _).alloc (Nat.le_refl _) _, by simp, fun j h h2 => absurd h2 (Nat.not_lt_zero j)⟩
    case round =>
      obtain ⟨k, hk, rfl, hbel, hbox, HK⟩ := hrel
      by_cases hlt : k < l.length
      · obtain ⟨b, o, rfl, d1, d2, d3⟩ := HC.out k hlt
        have c1 : wr.cell? ⟨b, o + k * 3, none⟩ = _ := (hbel.cell (World.block_lt_of_cell? w _ d1)).trans d1
        have c2 : wr.cell? ⟨b, o + k * 3 + 1, none⟩ = _ := (hbel.cell (World.block_lt_of_cell? w _ d2)).trans d2
        have c3 : wr.cell? ⟨b, o + k * 3 + 2, none⟩ = _ := (hbel.cell (World.block_lt_of_cell? w _ d3)).trans d3
        have l1 := World.block_lt_of_cell? wr _ c1
        have l0 := World.block_lt_of_cell? wr _ hbox
        simp only at l1 l0
        have p1 : (k : Int) < (l.length : Int) := by omega
        have p0 : (0 : Int) ≤ (k : Int) := by omega
        have KF := hidT (file_call hlt HS.out)
        have HB := hidT hbel
        by_cases hk0 : k = 0
        · subst hk0
          have HG : Hid (goodAt l 0 hlt = fileR l[0]) := by unfold Hid goodAt; simp
          generalize fileR l[0] = z at *
          simp only [Nat.zero_mul, Nat.add_zero] at c1 c2 c3
          generalize l[0].p = x at *
          generalize l[0].m = y at *
          generalize l[0].d = t at *
          clear d1 d2 d3 hbel
          cases z
          · have HN : Hid (treeR l = false) := treeR_bad 0 hlt HG.out
            go_wp2_with fail
            go_region_held3 (fun w' => w'.cell? ⟨w.heap.size, 0, none⟩ = some (.slice (some ⟨b, o, none⟩) l.length cap) ∧ w'.cell? ⟨b, o, none⟩ = some (.string x) ∧ w'.cell? ⟨b, o + 1, none⟩ = some (.int .i64 y) ∧ w'.cell? ⟨b, o + 2, none⟩ = some (.string t))
              (first
                | go_keep
                | (exact kQ))
              ((go_at_call 43; refine (KF.out _).mono ?_; rintro e w1 ⟨rfl, hb1⟩; have kQ : w1.cell? ⟨w.heap.size, 0, none⟩ = some (.slice (some ⟨b, o, none⟩) l.length cap) ∧ w1.cell? ⟨b, o, none⟩ = some (.string x) ∧ w1.cell? ⟨b, o + 1, none⟩ = some (.int .i64 y) ∧ w1.cell? ⟨b, o + 2, none⟩ = some (.string t) := ⟨(hb1.cell (p := ⟨w.heap.size, 0, none⟩) l0).trans hbox, (hb1.cell (p := ⟨b, o, none⟩) l1).trans c1, (hb1.cell (p := ⟨b, o + 1, none⟩) l1).trans c2, (hb1.cell (p := ⟨b, o + 2, none⟩) l1).trans c3⟩; have HB1 := hidT (HB.out.drew.trans (hb1.mono HB.out.size)); simp only [CutCall.shut_cut] at *))
            unfold Hid
            refine wpAnyH_take (i := 6) (v := ?_) rfl (by kernel_rfl) (by kernel_rfl) (by kernel_rfl) (fun _ _ _ h => h) (Or.inl ⟨by rfl, ?_⟩) kQ ?_
            rotate_left
            · (intro w9 hS9; (try dsimp only at hS9); go_simp; (try with_reducible rfl))
            simp only [List.getElem_toArray, List.getElem_cons_succ, List.getElem_cons_zero, Act.put, List.setIfInBounds_toArray, List.set_cons_zero, List.set_cons_succ]
            refine wpAnyH_take (i := 7) (v := ?_) rfl (by kernel_rfl) (by kernel_rfl) (by kernel_rfl) (fun _ _ _ h => h) (Or.inl ⟨by rfl, ?_⟩) kQ ?_
            rotate_left
            · (intro w9 hS9; (try dsimp only at hS9); go_simp; (try with_reducible rfl))
            simp only [List.getElem_toArray, List.getElem_cons_succ, List.getElem_cons_zero, Act.put, List.setIfInBounds_toArray, List.set_cons_zero, List.set_cons_succ]
            refine wpAnyH_take (i := 8) (v := _) rfl (by kernel_rfl) (by kernel_rfl) (by kernel_rfl) (fun _ _ _ h => h) (Or.inr ⟨by rfl, rfl⟩) kQ ?_
            simp only [List.getElem_toArray, List.getElem_cons_succ, List.getElem_cons_zero, Act.put, List.setIfInBounds_toArray, List.set_cons_zero, List.set_cons_succ]
            refine wpAnyH_take (i := 9) (v := _) rfl (by kernel_rfl) (by kernel_rfl) (by kernel_rfl) (fun _ _ _ h => h) (Or.inr ⟨by rfl, rfl⟩) kQ ?_
            simp only [List.getElem_toArray, List.getElem_cons_succ, List.getElem_cons_zero, Act.put, List.setIfInBounds_toArray, List.set_cons_zero, List.set_cons_succ]
            refine wpAnyH_take (i := 10) (v := _) rfl (by kernel_rfl) (by kernel_rfl) (by kernel_rfl) (fun _ _ _ h => h) (Or.inr ⟨by rfl, rfl⟩) kQ ?_
            simp only [List.getElem_toArray, List.getElem_cons_succ, List.getElem_cons_zero, Act.put, List.setIfInBounds_toArray, List.set_cons_zero, List.set_cons_succ]
            refine wpAnyH_take (i := 11) (v := _) rfl (by kernel_rfl) (by kernel_rfl) (by kernel_rfl) (fun _ _ _ h => h) (Or.inr ⟨by rfl, rfl⟩) kQ ?_
            simp only [List.getElem_toArray, List.getElem_cons_succ, List.getElem_cons_zero, Act.put, List.setIfInBounds_toArray, List.set_cons_zero, List.set_cons_succ]
            refine wpAnyH_take (i := 12) (v := _) rfl (by kernel_rfl) (by kernel_rfl) (by kernel_rfl) (fun _ _ _ h => h) (Or.inr ⟨by rfl, rfl⟩) kQ ?_
            simp only [List.getElem_toArray, List.getElem_cons_succ, List.getElem_cons_zero, Act.put, List.setIfInBounds_toArray, List.set_cons_zero, List.set_cons_succ]
            refine wpAnyH_take (i := 13) (v := _) rfl (by kernel_rfl) (by kernel_rfl) (by kernel_rfl) (fun _ _ _ h => h) (Or.inr ⟨by rfl, rfl⟩) kQ ?_
            simp only [List.getElem_toArray, List.getElem_cons_succ, List.getElem_cons_zero, Act.put, List.setIfInBounds_toArray, List.set_cons_zero, List.set_cons_succ]
            refine wpAnyH_take (i := 14) (v := _) rfl (by kernel_rfl) (by kernel_rfl) (by kernel_rfl) (fun _ _ _ h => h) (Or.inr ⟨by rfl, rfl⟩) kQ ?_
            simp only [List.getElem_toArray, List.getElem_cons_succ, List.getElem_cons_zero, Act.put, List.setIfInBounds_toArray, List.set_cons_zero, List.set_cons_succ]
            refine wpAnyH_take (i := 15) (v := _) rfl (by kernel_rfl) (by kernel_rfl) (by kernel_rfl) (fun _ _ _ h => h) (Or.inr ⟨by rfl, rfl⟩) kQ ?_
            simp only [List.getElem_toArray, List.getElem_cons_succ, List.getElem_cons_zero, Act.put, List.setIfInBounds_toArray, List.set_cons_zero, List.set_cons_succ]
            refine wpAnyH_take (i := 16) (v := _) rfl (by kernel_rfl) (by kernel_rfl) (by kernel_rfl) (fun _ _ _ h => h) (Or.inr ⟨by rfl, rfl⟩) kQ ?_
            simp only [List.getElem_toArray, List.getElem_cons_succ, List.getElem_cons_zero, Act.put, List.setIfInBounds_toArray, List.set_cons_zero, List.set_cons_succ]
            refine wpAnyH_take (i := 17) (v := _) rfl (by kernel_rfl) (by kernel_rfl) (by kernel_rfl) (fun _ _ _ h => h) (Or.inr ⟨by rfl, rfl⟩) kQ ?_
            simp only [List.getElem_toArray, List.getElem_cons_succ, List.getElem_cons_zero, Act.put, List.setIfInBounds_toArray, List.set_cons_zero, List.set_cons_succ]
            refine wpAnyH_take (i := 18) (v := _) rfl (by kernel_rfl) (by kernel_rfl) (by kernel_rfl) (fun _ _ _ h => h) (Or.inr ⟨by rfl, rfl⟩) kQ ?_
            simp only [List.getElem_toArray, List.getElem_cons_succ, List.getElem_cons_zero, Act.put, List.setIfInBounds_toArray, List.set_cons_zero, List.set_cons_succ]
            refine wpAnyH_take (i := 19) (v := _) rfl (by kernel_rfl) (by kernel_rfl) (by kernel_rfl) (fun _ _ _ h => h) (Or.inr ⟨by rfl, rfl⟩) kQ ?_
            simp only [List.getElem_toArray, List.getElem_cons_succ, List.getElem_cons_zero, Act.put, List.setIfInBounds_toArray, List.set_cons_zero, List.set_cons_succ]
            refine wpAnyH_take (i := 20) (v := _) rfl (by kernel_rfl) (by kernel_rfl) (by kernel_rfl) (fun _ _ _ h => h) (Or.inr ⟨by rfl, rfl⟩) kQ ?_
            simp only [List.getElem_toArray, List.getElem_cons_succ, List.getElem_cons_zero, Act.put, List.setIfInBounds_toArray, List.set_cons_zero, List.set_cons_succ]
            refine wpAnyH_take (i := 21) (v := _) rfl (by kernel_rfl) (by kernel_rfl) (by kernel_rfl) (fun _ _ _ h => h) (Or.inr ⟨by rfl, rfl⟩) kQ ?_
            simp only [List.getElem_toArray, List.getElem_cons_succ, List.getElem_cons_zero, Act.put, List.setIfInBounds_toArray, List.set_cons_zero, List.set_cons_succ]
            refine wpAnyH_take (i := 22) (v := _) rfl (by kernel_rfl) (by kernel_rfl) (by kernel_rfl) (fun _ _ _ h => h) (Or.inr ⟨by rfl, rfl⟩) kQ ?_
            simp only [List.getElem_toArray, List.getElem_cons_succ, List.getElem_cons_zero, Act.put, List.setIfInBounds_toArray, List.set_cons_zero, List.set_cons_succ]
            refine wpAnyH_take (i := 23) (v := _) rfl (by kernel_rfl) (by kernel_rfl) (by kernel_rfl) (fun _ _ _ h => h) (Or.inr ⟨by rfl, rfl⟩) kQ ?_
            simp only [List.getElem_toArray, List.getElem_cons_succ, List.getElem_cons_zero, Act.put, List.setIfInBounds_toArray, List.set_cons_zero, List.set_cons_succ]
            refine wpAnyH_take (i := 24) (v := _) rfl (by kernel_rfl) (by kernel_rfl) (by kernel_rfl) (fun _ _ _ h => h) (Or.inr ⟨by rfl, rfl⟩) kQ ?_
            simp only [List.getElem_toArray, List.getElem_cons_succ, List.getElem_cons_zero, Act.put, List.setIfInBounds_toArray, List.set_cons_zero, List.set_cons_succ]
            refine wpAnyH_take (i := 25) (v := _) rfl (by kernel_rfl) (by kernel_rfl) (by kernel_rfl) (fun _ _ _ h => h) (Or.inr ⟨by rfl, rfl⟩) kQ ?_
            simp only [List.getElem_toArray, List.getElem_cons_succ, List.getElem_cons_zero, Act.put, List.setIfInBounds_toArray, List.set_cons_zero, List.set_cons_succ]
            refine wpAnyH_take (i := 26) (v := ?_) rfl (by kernel_rfl) (by kernel_rfl) (by kernel_rfl) (fun _ _ _ h => h) (Or.inl ⟨by rfl, ?_⟩) kQ ?_
            rotate_left
            · (intro w9 hS9; (try dsimp only at hS9); go_simp; (try with_reducible rfl))
            simp only [List.getElem_toArray, List.getElem_cons_succ, List.getElem_cons_zero, Act.put, List.setIfInBounds_toArray, List.set_cons_zero, List.set_cons_succ]
            refine wpAnyH_done (by kernel_rfl) ?_ _
            refine NoPanic.normal ?_
            go_wp2
            go_ret
            exact ⟨by rw [HN.out]; rfl, HB1.out⟩
          · go_wp2_with fail
            go_region_held3 (fun w' => w'.cell? ⟨w.heap.size, 0, none⟩ = some (.slice (some ⟨b, o, none⟩) l.length cap) ∧ w'.cell? ⟨b, o, none⟩ = some (.string x) ∧ w'.cell? ⟨b, o + 1, none⟩ = some (.int .i64 y) ∧ w'.cell? ⟨b, o + 2, none⟩ = some (.string t))
              (first
                | go_keep
                | (exact kQ))
              ((go_at_call 43; refine (KF.out _).mono ?_; rintro e w1 ⟨rfl, hb1⟩; have kQ : w1.cell? ⟨w.heap.size, 0, none⟩ = some (.slice (some ⟨b, o, none⟩) l.length cap) ∧ w1.cell? ⟨b, o, none⟩ = some (.string x) ∧ w1.cell? ⟨b, o + 1, none⟩ = some (.int .i64 y) ∧ w1.cell? ⟨b, o + 2, none⟩ = some (.string t) := ⟨(hb1.cell (p := ⟨w.heap.size, 0, none⟩) l0).trans hbox, (hb1.cell (p := ⟨b, o, none⟩) l1).trans c1, (hb1.cell (p := ⟨b, o + 1, none⟩) l1).trans c2, (hb1.cell (p := ⟨b, o + 2, none⟩) l1).trans c3⟩; have HB1 := hidT (HB.out.drew.trans (hb1.mono HB.out.size)); simp only [CutCall.shut_cut] at *))
            unfold Hid
            refine wpAnyH_take (i := 6) (v := ?_) rfl (by kernel_rfl) (by kernel_rfl) (by kernel_rfl) (fun _ _ _ h => h) (Or.inl ⟨by rfl, ?_⟩) kQ ?_
            rotate_left
            · (intro w9 hS9; (try dsimp only at hS9); go_simp; (try with_reducible rfl))
            simp only [List.getElem_toArray, List.getElem_cons_succ, List.getElem_cons_zero, Act.put, List.setIfInBounds_toArray, List.set_cons_zero, List.set_cons_succ]
            refine wpAnyH_take (i := 7) (v := ?_) rfl (by kernel_rfl) (by kernel_rfl) (by kernel_rfl) (fun _ _ _ h => h) (Or.inl ⟨by rfl, ?_⟩) kQ ?_
            rotate_left
            · (intro w9 hS9; (try dsimp only at hS9); go_simp; (try with_reducible rfl))
            simp only [List.getElem_toArray, List.getElem_cons_succ, List.getElem_cons_zero, Act.put, List.setIfInBounds_toArray, List.set_cons_zero, List.set_cons_succ]
            refine wpAnyH_take (i := 8) (v := ?_) rfl (by kernel_rfl) (by kernel_rfl) (by kernel_rfl) (fun _ _ _ h => h) (Or.inl ⟨by rfl, ?_⟩) kQ ?_
            rotate_left
            · (intro w9 hS9; (try dsimp only at hS9); go_simp; (try with_reducible rfl))
            simp only [List.getElem_toArray, List.getElem_cons_succ, List.getElem_cons_zero, Act.put, List.setIfInBounds_toArray, List.set_cons_zero, List.set_cons_succ]
            refine wpAnyH_take (i := 9) (v := ?_) rfl (by kernel_rfl) (by kernel_rfl) (by kernel_rfl) (fun _ _ _ h => h) (Or.inl ⟨by rfl, ?_⟩) kQ ?_
            rotate_left
            · (intro w9 hS9; (try dsimp only at hS9); go_simp; (try with_reducible rfl))
            simp only [List.getElem_toArray, List.getElem_cons_succ, List.getElem_cons_zero, Act.put, List.setIfInBounds_toArray, List.set_cons_zero, List.set_cons_succ]
            refine wpAnyH_take (i := 10) (v := ?_) rfl (by kernel_rfl) (by kernel_rfl) (by kernel_rfl) (fun _ _ _ h => h) (Or.inl ⟨by rfl, ?_⟩) kQ ?_
            rotate_left
            · (intro w9 hS9; (try dsimp only at hS9); go_simp; (try with_reducible rfl))
            simp only [List.getElem_toArray, List.getElem_cons_succ, List.getElem_cons_zero, Act.put, List.setIfInBounds_toArray, List.set_cons_zero, List.set_cons_succ]
            refine wpAnyH_take (i := 11) (v := _) rfl (by kernel_rfl) (by kernel_rfl) (by kernel_rfl) (fun _ _ _ h => h) (Or.inr ⟨by rfl, rfl⟩) kQ ?_
            simp only [List.getElem_toArray, List.getElem_cons_succ, List.getElem_cons_zero, Act.put, List.setIfInBounds_toArray, List.set_cons_zero, List.set_cons_succ]
            refine wpAnyH_take (i := 12) (v := _) rfl (by kernel_rfl) (by kernel_rfl) (by kernel_rfl) (fun _ _ _ h => h) (Or.inr ⟨by rfl, rfl⟩) kQ ?_
            simp only [List.getElem_toArray, List.getElem_cons_succ, List.getElem_cons_zero, Act.put, List.setIfInBounds_toArray, List.set_cons_zero, List.set_cons_succ]
            refine wpAnyH_take (i := 13) (v := _) rfl (by kernel_rfl) (by kernel_rfl) (by kernel_rfl) (fun _ _ _ h => h) (Or.inr ⟨by rfl, rfl⟩) kQ ?_
            simp only [List.getElem_toArray, List.getElem_cons_succ, List.getElem_cons_zero, Act.put, List.setIfInBounds_toArray, List.set_cons_zero, List.set_cons_succ]
            refine wpAnyH_take (i := 14) (v := _) rfl (by kernel_rfl) (by kernel_rfl) (by kernel_rfl) (fun _ _ _ h => h) (Or.inr ⟨by rfl, rfl⟩) kQ ?_
            simp only [List.getElem_toArray, List.getElem_cons_succ, List.getElem_cons_zero, Act.put, List.setIfInBounds_toArray, List.set_cons_zero, List.set_cons_succ]
            refine wpAnyH_take (i := 15) (v := _) rfl (by kernel_rfl) (by kernel_rfl) (by kernel_rfl) (fun _ _ _ h => h) (Or.inr ⟨by rfl, rfl⟩) kQ ?_
            simp only [List.getElem_toArray, List.getElem_cons_succ, List.getElem_cons_zero, Act.put, List.setIfInBounds_toArray, List.set_cons_zero, List.set_cons_succ]
            refine wpAnyH_take (i := 16) (v := _) rfl (by kernel_rfl) (by kernel_rfl) (by kernel_rfl) (fun _ _ _ h => h) (Or.inr ⟨by rfl, rfl⟩) kQ ?_
            simp only [List.getElem_toArray, List.getElem_cons_succ, List.getElem_cons_zero, Act.put, List.setIfInBounds_toArray, List.set_cons_zero, List.set_cons_succ]
            refine wpAnyH_take (i := 17) (v := _) rfl (by kernel_rfl) (by kernel_rfl) (by kernel_rfl) (fun _ _ _ h => h) (Or.inr ⟨by rfl, rfl⟩) kQ ?_
            simp only [List.getElem_toArray, List.getElem_cons_succ, List.getElem_cons_zero, Act.put, List.setIfInBounds_toArray, List.set_cons_zero, List.set_cons_succ]
            refine wpAnyH_take (i := 18) (v := _) rfl (by kernel_rfl) (by kernel_rfl) (by kernel_rfl) (fun _ _ _ h => h) (Or.inr ⟨by rfl, rfl⟩) kQ ?_
            simp only [List.getElem_toArray, List.getElem_cons_succ, List.getElem_cons_zero, Act.put, List.setIfInBounds_toArray, List.set_cons_zero, List.set_cons_succ]
            refine wpAnyH_take (i := 19) (v := _) rfl (by kernel_rfl) (by kernel_rfl) (by kernel_rfl) (fun _ _ _ h => h) (Or.inr ⟨by rfl, rfl⟩) kQ ?_
            simp only [List.getElem_toArray, List.getElem_cons_succ, List.getElem_cons_zero, Act.put, List.setIfInBounds_toArray, List.set_cons_zero, List.set_cons_succ]
            refine wpAnyH_take (i := 20) (v := _) rfl (by kernel_rfl) (by kernel_rfl) (by kernel_rfl) (fun _ _ _ h => h) (Or.inr ⟨by rfl, rfl⟩) kQ ?_
            simp only [List.getElem_toArray, List.getElem_cons_succ, List.getElem_cons_zero, Act.put, List.setIfInBounds_toArray, List.set_cons_zero, List.set_cons_succ]
            refine wpAnyH_take (i := 21) (v := _) rfl (by kernel_rfl) (by kernel_rfl) (by kernel_rfl) (fun _ _ _ h => h) (Or.inr ⟨by rfl, rfl⟩) kQ ?_
            simp only [List.getElem_toArray, List.getElem_cons_succ, List.getElem_cons_zero, Act.put, List.setIfInBounds_toArray, List.set_cons_zero, List.set_cons_succ]
            refine wpAnyH_take (i := 22) (v := _) rfl (by kernel_rfl) (by kernel_rfl) (by kernel_rfl) (fun _ _ _ h => h) (Or.inr ⟨by rfl, rfl⟩) kQ ?_
            simp only [List.getElem_toArray, List.getElem_cons_succ, List.getElem_cons_zero, Act.put, List.setIfInBounds_toArray, List.set_cons_zero, List.set_cons_succ]
            refine wpAnyH_take (i := 23) (v := _) rfl (by kernel_rfl) (by kernel_rfl) (by kernel_rfl) (fun _ _ _ h => h) (Or.inr ⟨by rfl, rfl⟩) kQ ?_
            simp only [List.getElem_toArray, List.getElem_cons_succ, List.getElem_cons_zero, Act.put, List.setIfInBounds_toArray, List.set_cons_zero, List.set_cons_succ]
            refine wpAnyH_take (i := 24) (v := _) rfl (by kernel_rfl) (by kernel_rfl) (by kernel_rfl) (fun _ _ _ h => h) (Or.inr ⟨by rfl, rfl⟩) kQ ?_
            simp only [List.getElem_toArray, List.getElem_cons_succ, List.getElem_cons_zero, Act.put, List.setIfInBounds_toArray, List.set_cons_zero, List.set_cons_succ]
            refine wpAnyH_take (i := 25) (v := ?_) rfl (by kernel_rfl) (by kernel_rfl) (by kernel_rfl) (fun _ _ _ h => h) (Or.inl ⟨by rfl, ?_⟩) kQ ?_
            rotate_left
            · (intro w9 hS9; (try dsimp only at hS9); go_simp; (try with_reducible rfl))
            simp only [List.getElem_toArray, List.getElem_cons_succ, List.getElem_cons_zero, Act.put, List.setIfInBounds_toArray, List.set_cons_zero, List.set_cons_succ]
            refine wpAnyH_take (i := 26) (v := ?_) rfl (by kernel_rfl) (by kernel_rfl) (by kernel_rfl) (fun _ _ _ h => h) (Or.inl ⟨by rfl, ?_⟩) kQ ?_
            rotate_left
            · (intro w9 hS9; (try dsimp only at hS9); go_simp; (try with_reducible rfl))
            simp only [List.getElem_toArray, List.getElem_cons_succ, List.getElem_cons_zero, Act.put, List.setIfInBounds_toArray, List.set_cons_zero, List.set_cons_succ]
            refine wpAnyH_done (by kernel_rfl) ?_ _
            refine NoPanic.normal ?_
            have HK1 : Hid (∀ j (h : j < l.length), j < 1 → goodAt l j h = true) := fun j h hj => by
              obtain rfl : j = 0 := by omega
              exact HG.out
            go_wp2
            go_loopw [4] (fun j wr2 => j = .int .i64 0 ∧ wr2 = w1) (fun _ _ => 0)
            case atStart => exact ⟨rfl, rfl⟩
            case round =>
              obtain ⟨rfl, rfl⟩ := hrel
              go_wp2
              exact ⟨⟨1, by omega, by go_num, HB1.out, kQ.1, HK1⟩, by simp [intOf]; omega⟩
        · obtain ⟨p, rfl⟩ : ∃ p, k = p + 1 := ⟨k - 1, by omega⟩
          obtain ⟨b2, o2, e, d4, _, _⟩ := HC.out p (by omega)
          cases e
          have pa : (0 : Int) ≤ (p : Int) + 1 := by omega
          have pb : (p : Int) + 1 < (l.length : Int) := by omega
          have pt : ((p : Int) + 1).toNat = p + 1 := by omega
          have c4 : wr.cell? ⟨b, o + p * 3, none⟩ = _ := (hbel.cell (World.block_lt_of_cell? w _ d4)).trans d4
          have HG : Hid (goodAt l (p + 1) hlt = (fileR l[p + 1] && ltT l[p].p l[p + 1].p && !((l.take (p + 1)).any fun f => cross f.p l[p + 1].p))) := by unfold Hid goodAt; simp
          generalize fileR l[p + 1] = z at *
          have HU : Hid (l[p].p = l[p].p) := rfl
          generalize hx : l[p + 1].p = x at *
          have HX := hidT hx
          generalize l[p + 1].m = y at *
          generalize l[p + 1].d = t at *
          generalize l[p].p = u at *
          clear d1 d2 d3 d4 hbel hx
          cases z
          · have HN : Hid (treeR l = false) := treeR_bad (p + 1) hlt (by rw [HG.out]; rfl)
            go_wp2_with fail
            go_region_held3 (fun w' => w'.cell? ⟨w.heap.size, 0, none⟩ = some (.slice (some ⟨b, o, none⟩) l.length cap) ∧ w'.cell? ⟨b, o + (p + 1) * 3, none⟩ = some (.string x) ∧ w'.cell? ⟨b, o + (p + 1) * 3 + 1, none⟩ = some (.int .i64 y) ∧ w'.cell? ⟨b, o + (p + 1) * 3 + 2, none⟩ = some (.string t) ∧ w'.cell? ⟨b, o + p * 3, none⟩ = some (.string u))
              (first
                | go_keep
                | (exact kQ))
              ((go_at_call 43; refine (KF.out _).mono ?_; rintro e w1 ⟨rfl, hb1⟩; have kQ : w1.cell? ⟨w.heap.size, 0, none⟩ = some (.slice (some ⟨b, o, none⟩) l.length cap) ∧ w1.cell? ⟨b, o + (p + 1) * 3, none⟩ = some (.string x) ∧ w1.cell? ⟨b, o + (p + 1) * 3 + 1, none⟩ = some (.int .i64 y) ∧ w1.cell? ⟨b, o + (p + 1) * 3 + 2, none⟩ = some (.string t) ∧ w1.cell? ⟨b, o + p * 3, none⟩ = some (.string u) := ⟨(hb1.cell (p := ⟨w.heap.size, 0, none⟩) l0).trans hbox, (hb1.cell (p := ⟨b, o + (p + 1) * 3, none⟩) l1).trans c1, (hb1.cell (p := ⟨b, o + (p + 1) * 3 + 1, none⟩) l1).trans c2, (hb1.cell (p := ⟨b, o + (p + 1) * 3 + 2, none⟩) l1).trans c3, (hb1.cell (p := ⟨b, o + p * 3, none⟩) l1).trans c4⟩; have HB1 := hidT (HB.out.drew.trans (hb1.mono HB.out.size)); simp only [CutCall.shut_cut] at *))
            unfold Hid
            refine wpAnyH_take (i := 6) (v := ?_) rfl (by kernel_rfl) (by kernel_rfl) (by kernel_rfl) (fun _ _ _ h => h) (Or.inl ⟨by rfl, ?_⟩) kQ ?_
            rotate_left
            · (intro w9 hS9; (try dsimp only at hS9); go_simp; (try with_reducible rfl))
            simp only [List.getElem_toArray, List.getElem_cons_succ, List.getElem_cons_zero, Act.put, List.setIfInBounds_toArray, List.set_cons_zero, List.set_cons_succ]
            refine wpAnyH_take (i := 7) (v := ?_) rfl (by kernel_rfl) (by kernel_rfl) (by kernel_rfl) (fun _ _ _ h => h) (Or.inl ⟨by rfl, ?_⟩) kQ ?_
            rotate_left
            · (intro w9 hS9; (try dsimp only at hS9); go_simp; (try with_reducible rfl))
            simp only [List.getElem_toArray, List.getElem_cons_succ, List.getElem_cons_zero, Act.put, List.setIfInBounds_toArray, List.set_cons_zero, List.set_cons_succ]
            refine wpAnyH_take (i := 8) (v := _) rfl (by kernel_rfl) (by kernel_rfl) (by kernel_rfl) (fun _ _ _ h => h) (Or.inr ⟨by rfl, rfl⟩) kQ ?_
            simp only [List.getElem_toArray, List.getElem_cons_succ, List.getElem_cons_zero, Act.put, List.setIfInBounds_toArray, List.set_cons_zero, List.set_cons_succ]
            refine wpAnyH_take (i := 9) (v := _) rfl (by kernel_rfl) (by kernel_rfl) (by kernel_rfl) (fun _ _ _ h => h) (Or.inr ⟨by rfl, rfl⟩) kQ ?_
            simp only [List.getElem_toArray, List.getElem_cons_succ, List.getElem_cons_zero, Act.put, List.setIfInBounds_toArray, List.set_cons_zero, List.set_cons_succ]
            refine wpAnyH_take (i := 10) (v := _) rfl (by kernel_rfl) (by kernel_rfl) (by kernel_rfl) (fun _ _ _ h => h) (Or.inr ⟨by rfl, rfl⟩) kQ ?_
            simp only [List.getElem_toArray, List.getElem_cons_succ, List.getElem_cons_zero, Act.put, List.setIfInBounds_toArray, List.set_cons_zero, List.set_cons_succ]
            refine wpAnyH_take (i := 11) (v := _) rfl (by kernel_rfl) (by kernel_rfl) (by kernel_rfl) (fun _ _ _ h => h) (Or.inr ⟨by rfl, rfl⟩) kQ ?_
            simp only [List.getElem_toArray, List.getElem_cons_succ, List.getElem_cons_zero, Act.put, List.setIfInBounds_toArray, List.set_cons_zero, List.set_cons_succ]
            refine wpAnyH_take (i := 12) (v := _) rfl (by kernel_rfl) (by kernel_rfl) (by kernel_rfl) (fun _ _ _ h => h) (Or.inr ⟨by rfl, rfl⟩) kQ ?_
            simp only [List.getElem_toArray, List.getElem_cons_succ, List.getElem_cons_zero, Act.put, List.setIfInBounds_toArray, List.set_cons_zero, List.set_cons_succ]
            refine wpAnyH_take (i := 13) (v := _) rfl (by kernel_rfl) (by kernel_rfl) (by kernel_rfl) (fun _ _ _ h => h) (Or.inr ⟨by rfl, rfl⟩) kQ ?_
            simp only [List.getElem_toArray, List.getElem_cons_succ, List.getElem_cons_zero, Act.put, List.setIfInBounds_toArray, List.set_cons_zero, List.set_cons_succ]
            refine wpAnyH_take (i := 14) (v := _) rfl (by kernel_rfl) (by kernel_rfl) (by kernel_rfl) (fun _ _ _ h => h) (Or.inr ⟨by rfl, rfl⟩) kQ ?_
            simp only [List.getElem_toArray, List.getElem_cons_succ, List.getElem_cons_zero, Act.put, List.setIfInBounds_toArray, List.set_cons_zero, List.set_cons_succ]
            refine wpAnyH_take (i := 15) (v := _) rfl (by kernel_rfl) (by kernel_rfl) (by kernel_rfl) (fun _ _ _ h => h) (Or.inr ⟨by rfl, rfl⟩) kQ ?_
            simp only [List.getElem_toArray, List.getElem_cons_succ, List.getElem_cons_zero, Act.put, List.setIfInBounds_toArray, List.set_cons_zero, List.set_cons_succ]
            refine wpAnyH_take (i := 16) (v := _) rfl (by kernel_rfl) (by kernel_rfl) (by kernel_rfl) (fun _ _ _ h => h) (Or.inr ⟨by rfl, rfl⟩) kQ ?_
            simp only [List.getElem_toArray, List.getElem_cons_succ, List.getElem_cons_zero, Act.put, List.setIfInBounds_toArray, List.set_cons_zero, List.set_cons_succ]
            refine wpAnyH_take (i := 17) (v := _) rfl (by kernel_rfl) (by kernel_rfl) (by kernel_rfl) (fun _ _ _ h => h) (Or.inr ⟨by rfl, rfl⟩) kQ ?_
            simp only [List.getElem_toArray, List.getElem_cons_succ, List.getElem_cons_zero, Act.put, List.setIfInBounds_toArray, List.set_cons_zero, List.set_cons_succ]
            refine wpAnyH_take (i := 18) (v := _) rfl (by kernel_rfl) (by kernel_rfl) (by kernel_rfl) (fun _ _ _ h => h) (Or.inr ⟨by rfl, rfl⟩) kQ ?_
            simp only [List.getElem_toArray, List.getElem_cons_succ, List.getElem_cons_zero, Act.put, List.setIfInBounds_toArray, List.set_cons_zero, List.set_cons_succ]
            refine wpAnyH_take (i := 19) (v := _) rfl (by kernel_rfl) (by kernel_rfl) (by kernel_rfl) (fun _ _ _ h => h) (Or.inr ⟨by rfl, rfl⟩) kQ ?_
            simp only [List.getElem_toArray, List.getElem_cons_succ, List.getElem_cons_zero, Act.put, List.setIfInBounds_toArray, List.set_cons_zero, List.set_cons_succ]
            refine wpAnyH_take (i := 20) (v := _) rfl (by kernel_rfl) (by kernel_rfl) (by kernel_rfl) (fun _ _ _ h => h) (Or.inr ⟨by rfl, rfl⟩) kQ ?_
            simp only [List.getElem_toArray, List.getElem_cons_succ, List.getElem_cons_zero, Act.put, List.setIfInBounds_toArray, List.set_cons_zero, List.set_cons_succ]
            refine wpAnyH_take (i := 21) (v := _) rfl (by kernel_rfl) (by kernel_rfl) (by kernel_rfl) (fun _ _ _ h => h) (Or.inr ⟨by rfl, rfl⟩) kQ ?_
            simp only [List.getElem_toArray, List.getElem_cons_succ, List.getElem_cons_zero, Act.put, List.setIfInBounds_toArray, List.set_cons_zero, List.set_cons_succ]
            refine wpAnyH_take (i := 22) (v := _) rfl (by kernel_rfl) (by kernel_rfl) (by kernel_rfl) (fun _ _ _ h => h) (Or.inr ⟨by rfl, rfl⟩) kQ ?_
            simp only [List.getElem_toArray, List.getElem_cons_succ, List.getElem_cons_zero, Act.put, List.setIfInBounds_toArray, List.set_cons_zero, List.set_cons_succ]
            refine wpAnyH_take (i := 23) (v := _) rfl (by kernel_rfl) (by kernel_rfl) (by kernel_rfl) (fun _ _ _ h => h) (Or.inr ⟨by rfl, rfl⟩) kQ ?_
            simp only [List.getElem_toArray, List.getElem_cons_succ, List.getElem_cons_zero, Act.put, List.setIfInBounds_toArray, List.set_cons_zero, List.set_cons_succ]
            refine wpAnyH_take (i := 24) (v := _) rfl (by kernel_rfl) (by kernel_rfl) (by kernel_rfl) (fun _ _ _ h => h) (Or.inr ⟨by rfl, rfl⟩) kQ ?_
            simp only [List.getElem_toArray, List.getElem_cons_succ, List.getElem_cons_zero, Act.put, List.setIfInBounds_toArray, List.set_cons_zero, List.set_cons_succ]
            refine wpAnyH_take (i := 25) (v := _) rfl (by kernel_rfl) (by kernel_rfl) (by kernel_rfl) (fun _ _ _ h => h) (Or.inr ⟨by rfl, rfl⟩) kQ ?_
            simp only [List.getElem_toArray, List.getElem_cons_succ, List.getElem_cons_zero, Act.put, List.setIfInBounds_toArray, List.set_cons_zero, List.set_cons_succ]
            refine wpAnyH_take (i := 26) (v := ?_) rfl (by kernel_rfl) (by kernel_rfl) (by kernel_rfl) (fun _ _ _ h => h) (Or.inl ⟨by rfl, ?_⟩) kQ ?_
            rotate_left
            · (intro w9 hS9; (try dsimp only at hS9); go_simp; (try with_reducible rfl))
            simp only [List.getElem_toArray, List.getElem_cons_succ, List.getElem_cons_zero, Act.put, List.setIfInBounds_toArray, List.set_cons_zero, List.set_cons_succ]
            refine wpAnyH_done (by kernel_rfl) ?_ _
            refine NoPanic.normal ?_
            go_wp2
            go_ret
            exact ⟨by rw [HN.out]; rfl, HB1.out⟩
          · have q1 : ((p + 1 : Nat) : Int) - 1 = (p : Int) := by omega
            have q2 : (0 : Int) < ((p + 1 : Nat) : Int) := by omega
            have q3 := hidT (show (0 : Int) ≤ (p : Int) by omega)
            have q4 := hidT (show (p : Int) < (l.length : Int) by omega)
            have q5 := hidT (show IntKind.i64.wrap (p : Int) = (p : Int) from IntWalk.i64_in _ ⟨by omega, by omega⟩)
            have q6 := hidT (geq_run u x)
            go_wp2_with fail
            go_region_held3 (fun w' => w'.cell? ⟨w.heap.size, 0, none⟩ = some (.slice (some ⟨b, o, none⟩) l.length cap) ∧ w'.cell? ⟨b, o + (p + 1) * 3, none⟩ = some (.string x) ∧ w'.cell? ⟨b, o + (p + 1) * 3 + 1, none⟩ = some (.int .i64 y) ∧ w'.cell? ⟨b, o + (p + 1) * 3 + 2, none⟩ = some (.string t) ∧ w'.cell? ⟨b, o + p * 3, none⟩ = some (.string u))
              (first
                | go_keep
                | (exact kQ))
              ((go_at_call 43; refine (KF.out _).mono ?_; rintro e w1 ⟨rfl, hb1⟩; have kQ : w1.cell? ⟨w.heap.size, 0, none⟩ = some (.slice (some ⟨b, o, none⟩) l.length cap) ∧ w1.cell? ⟨b, o + (p + 1) * 3, none⟩ = some (.string x) ∧ w1.cell? ⟨b, o + (p + 1) * 3 + 1, none⟩ = some (.int .i64 y) ∧ w1.cell? ⟨b, o + (p + 1) * 3 + 2, none⟩ = some (.string t) ∧ w1.cell? ⟨b, o + p * 3, none⟩ = some (.string u) := ⟨(hb1.cell (p := ⟨w.heap.size, 0, none⟩) l0).trans hbox, (hb1.cell (p := ⟨b, o + (p + 1) * 3, none⟩) l1).trans c1, (hb1.cell (p := ⟨b, o + (p + 1) * 3 + 1, none⟩) l1).trans c2, (hb1.cell (p := ⟨b, o + (p + 1) * 3 + 2, none⟩) l1).trans c3, (hb1.cell (p := ⟨b, o + p * 3, none⟩) l1).trans c4⟩; have HB1 := hidT (HB.out.drew.trans (hb1.mono HB.out.size)); simp only [CutCall.shut_cut] at *))
            unfold Hid
            have q3 := q3.out
            have q4 := q4.out
            have q5 := q5.out
            have q6 := q6.out
            refine wpAnyH_take (i := 6) (v := ?_) rfl (by kernel_rfl) (by kernel_rfl) (by kernel_rfl) (fun _ _ _ h => h) (Or.inl ⟨by rfl, ?_⟩) kQ ?_
            rotate_left
            · (intro w9 hS9; (try dsimp only at hS9); go_simp; (try with_reducible rfl))
            simp only [List.getElem_toArray, List.getElem_cons_succ, List.getElem_cons_zero, Act.put, List.setIfInBounds_toArray, List.set_cons_zero, List.set_cons_succ]
            refine wpAnyH_take (i := 7) (v := ?_) rfl (by kernel_rfl) (by kernel_rfl) (by kernel_rfl) (fun _ _ _ h => h) (Or.inl ⟨by rfl, ?_⟩) kQ ?_
            rotate_left
            · (intro w9 hS9; (try dsimp only at hS9); go_simp; (try with_reducible rfl))
            simp only [List.getElem_toArray, List.getElem_cons_succ, List.getElem_cons_zero, Act.put, List.setIfInBounds_toArray, List.set_cons_zero, List.set_cons_succ]
            refine wpAnyH_take (i := 8) (v := ?_) rfl (by kernel_rfl) (by kernel_rfl) (by kernel_rfl) (fun _ _ _ h => h) (Or.inl ⟨by rfl, ?_⟩) kQ ?_
            rotate_left
            · (intro w9 hS9; (try dsimp only at hS9); go_simp; (try with_reducible rfl))
            simp only [List.getElem_toArray, List.getElem_cons_succ, List.getElem_cons_zero, Act.put, List.setIfInBounds_toArray, List.set_cons_zero, List.set_cons_succ]
            refine wpAnyH_take (i := 9) (v := ?_) rfl (by kernel_rfl) (by kernel_rfl) (by kernel_rfl) (fun _ _ _ h => h) (Or.inl ⟨by rfl, ?_⟩) kQ ?_
            rotate_left
            · (intro w9 hS9; (try dsimp only at hS9); go_simp; (try with_reducible rfl))
            simp only [List.getElem_toArray, List.getElem_cons_succ, List.getElem_cons_zero, Act.put, List.setIfInBounds_toArray, List.set_cons_zero, List.set_cons_succ]
            refine wpAnyH_take (i := 10) (v := ?_) rfl (by kernel_rfl) (by kernel_rfl) (by kernel_rfl) (fun _ _ _ h => h) (Or.inl ⟨by rfl, ?_⟩) kQ ?_
            rotate_left
            · (intro w9 hS9; (try dsimp only at hS9); go_simp; (try with_reducible rfl))
            simp only [List.getElem_toArray, List.getElem_cons_succ, List.getElem_cons_zero, Act.put, List.setIfInBounds_toArray, List.set_cons_zero, List.set_cons_succ]
            refine wpAnyH_take (i := 11) (v := ?_) rfl (by kernel_rfl) (by kernel_rfl) (by kernel_rfl) (fun _ _ _ h => h) (Or.inl ⟨by rfl, ?_⟩) kQ ?_
            rotate_left
            · (intro w9 hS9; (try dsimp only at hS9); go_simp; (try with_reducible rfl))
            simp only [List.getElem_toArray, List.getElem_cons_succ, List.getElem_cons_zero, Act.put, List.setIfInBounds_toArray, List.set_cons_zero, List.set_cons_succ]
            refine wpAnyH_take (i := 12) (v := ?_) rfl (by kernel_rfl) (by kernel_rfl) (by kernel_rfl) (fun _ _ _ h => h) (Or.inl ⟨by rfl, ?_⟩) kQ ?_
            rotate_left
            · (intro w9 hS9; (try dsimp only at hS9); go_simp; (try with_reducible rfl))
            simp only [List.getElem_toArray, List.getElem_cons_succ, List.getElem_cons_zero, Act.put, List.setIfInBounds_toArray, List.set_cons_zero, List.set_cons_succ]
            refine wpAnyH_take (i := 13) (v := ?_) rfl (by kernel_rfl) (by kernel_rfl) (by kernel_rfl) (fun _ _ _ h => h) (Or.inl ⟨by rfl, ?_⟩) kQ ?_
            rotate_left
            · (intro w9 hS9; (try dsimp only at hS9); go_simp; (try with_reducible rfl))
            simp only [List.getElem_toArray, List.getElem_cons_succ, List.getElem_cons_zero, Act.put, List.setIfInBounds_toArray, List.set_cons_zero, List.set_cons_succ]
            refine wpAnyH_take (i := 14) (v := ?_) rfl (by kernel_rfl) (by kernel_rfl) (by kernel_rfl) (fun _ _ _ h => h) (Or.inl ⟨by rfl, ?_⟩) kQ ?_
            rotate_left
            · (intro w9 hS9; (try dsimp only at hS9); go_simp; (try with_reducible rfl))
            simp only [List.getElem_toArray, List.getElem_cons_succ, List.getElem_cons_zero, Act.put, List.setIfInBounds_toArray, List.set_cons_zero, List.set_cons_succ]
            refine wpAnyH_take (i := 15) (v := ?_) rfl (by kernel_rfl) (by kernel_rfl) (by kernel_rfl) (fun _ _ _ h => h) (Or.inl ⟨by rfl, ?_⟩) kQ ?_
            rotate_left
            · (intro w9 hS9; (try dsimp only at hS9); go_simp; (try with_reducible rfl))
            simp only [List.getElem_toArray, List.getElem_cons_succ, List.getElem_cons_zero, Act.put, List.setIfInBounds_toArray, List.set_cons_zero, List.set_cons_succ]
            refine wpAnyH_take (i := 16) (v := ?_) rfl (by kernel_rfl) (by kernel_rfl) (by kernel_rfl) (fun _ _ _ h => h) (Or.inl ⟨by rfl, ?_⟩) kQ ?_
            rotate_left
            · (intro w9 hS9; (try dsimp only at hS9); go_simp; (try with_reducible rfl))
            simp only [List.getElem_toArray, List.getElem_cons_succ, List.getElem_cons_zero, Act.put, List.setIfInBounds_toArray, List.set_cons_zero, List.set_cons_succ]
            refine wpAnyH_take (i := 17) (v := ?_) rfl (by kernel_rfl) (by kernel_rfl) (by kernel_rfl) (fun _ _ _ h => h) (Or.inl ⟨by rfl, ?_⟩) kQ ?_
            rotate_left
            · (intro w9 hS9; (try dsimp only at hS9); go_simp; (try with_reducible rfl))
            simp only [List.getElem_toArray, List.getElem_cons_succ, List.getElem_cons_zero, Act.put, List.setIfInBounds_toArray, List.set_cons_zero, List.set_cons_succ]
            refine wpAnyH_take (i := 18) (v := ?_) rfl (by kernel_rfl) (by kernel_rfl) (by kernel_rfl) (fun _ _ _ h => h) (Or.inl ⟨by rfl, ?_⟩) kQ ?_
            rotate_left
            · (intro w9 hS9; (try dsimp only at hS9); go_simp; (try with_reducible rfl))
            simp only [List.getElem_toArray, List.getElem_cons_succ, List.getElem_cons_zero, Act.put, List.setIfInBounds_toArray, List.set_cons_zero, List.set_cons_succ]
            refine wpAnyH_take (i := 19) (v := ?_) rfl (by kernel_rfl) (by kernel_rfl) (by kernel_rfl) (fun _ _ _ h => h) (Or.inl ⟨by rfl, ?_⟩) kQ ?_
            rotate_left
            · (intro w9 hS9; (try dsimp only at hS9); go_simp; (try with_reducible rfl))
            simp only [List.getElem_toArray, List.getElem_cons_succ, List.getElem_cons_zero, Act.put, List.setIfInBounds_toArray, List.set_cons_zero, List.set_cons_succ]
            refine wpAnyH_take (i := 20) (v := ?_) rfl (by kernel_rfl) (by kernel_rfl) (by kernel_rfl) (fun _ _ _ h => h) (Or.inl ⟨by rfl, ?_⟩) kQ ?_
            rotate_left
            · (intro w9 hS9; (try dsimp only at hS9); go_simp; (try with_reducible rfl))
            simp only [List.getElem_toArray, List.getElem_cons_succ, List.getElem_cons_zero, Act.put, List.setIfInBounds_toArray, List.set_cons_zero, List.set_cons_succ]
            refine wpAnyH_take (i := 21) (v := ?_) rfl (by kernel_rfl) (by kernel_rfl) (by kernel_rfl) (fun _ _ _ h => h) (Or.inl ⟨by rfl, ?_⟩) kQ ?_
            rotate_left
            · (intro w9 hS9; (try dsimp only at hS9); go_simp; (try with_reducible rfl))
            simp only [List.getElem_toArray, List.getElem_cons_succ, List.getElem_cons_zero, Act.put, List.setIfInBounds_toArray, List.set_cons_zero, List.set_cons_succ]
            refine wpAnyH_take (i := 22) (v := ?_) rfl (by kernel_rfl) (by kernel_rfl) (by kernel_rfl) (fun _ _ _ h => h) (Or.inl ⟨by rfl, ?_⟩) kQ ?_
            rotate_left
            · (intro w9 hS9; (try dsimp only at hS9); go_simp; (try with_reducible rfl))
            simp only [List.getElem_toArray, List.getElem_cons_succ, List.getElem_cons_zero, Act.put, List.setIfInBounds_toArray, List.set_cons_zero, List.set_cons_succ]
            refine wpAnyH_take (i := 23) (v := ?_) rfl (by kernel_rfl) (by kernel_rfl) (by kernel_rfl) (fun _ _ _ h => h) (Or.inl ⟨by rfl, ?_⟩) kQ ?_
            rotate_left
            · (intro w9 hS9; (try dsimp only at hS9); go_simp; (try with_reducible rfl))
            simp only [List.getElem_toArray, List.getElem_cons_succ, List.getElem_cons_zero, Act.put, List.setIfInBounds_toArray, List.set_cons_zero, List.set_cons_succ]
            refine wpAnyH_take (i := 24) (v := ?_) rfl (by kernel_rfl) (by kernel_rfl) (by kernel_rfl) (fun _ _ _ h => h) (Or.inl ⟨by rfl, ?_⟩) kQ ?_
            rotate_left
            · (intro w9 hS9; (try dsimp only at hS9); go_simp; (try with_reducible rfl))
            simp only [List.getElem_toArray, List.getElem_cons_succ, List.getElem_cons_zero, Act.put, List.setIfInBounds_toArray, List.set_cons_zero, List.set_cons_succ]
            refine wpAnyH_take (i := 25) (v := ?_) rfl (by kernel_rfl) (by kernel_rfl) (by kernel_rfl) (fun _ _ _ h => h) (Or.inl ⟨by rfl, ?_⟩) kQ ?_
            rotate_left
            · (intro w9 hS9; (try dsimp only at hS9); go_simp; (try with_reducible rfl))
            simp only [List.getElem_toArray, List.getElem_cons_succ, List.getElem_cons_zero, Act.put, List.setIfInBounds_toArray, List.set_cons_zero, List.set_cons_succ]
            refine wpAnyH_take (i := 26) (v := ?_) rfl (by kernel_rfl) (by kernel_rfl) (by kernel_rfl) (fun _ _ _ h => h) (Or.inl ⟨by rfl, ?_⟩) kQ ?_
            rotate_left
            · (intro w9 hS9; (try dsimp only at hS9); go_simp; (try with_reducible rfl))
            simp only [List.getElem_toArray, List.getElem_cons_succ, List.getElem_cons_zero, Act.put, List.setIfInBounds_toArray, List.set_cons_zero, List.set_cons_succ]
            refine wpAnyH_done (by kernel_rfl) ?_ _
            refine NoPanic.normal ?_
            cases hz : ltT u x
            · rw [hz] at HG
              have HN : Hid (treeR l = false) := treeR_bad (p + 1) hlt (by rw [HG.out]; rfl)
              go_wp2
              go_ret
              exact ⟨by rw [HN.out]; rfl, HB1.out⟩
            · rw [hz, Bool.true_and, Bool.true_and] at HG
              clear hz
              have kB := kQ.1
              have HB1' := HB1.out
              have HBA : Hid (∀ j (h : j < l.length), j < p + 1 → cross l[j].p x = true → treeR l = false) := fun j hj hjp hc => treeR_bad (p + 1) hlt (by
                rw [HG.out]
                rw [(by simp only [List.any_eq_true]; exact ⟨l[j], List.mem_take_iff_getElem.2 ⟨j, by omega, rfl⟩, hc⟩ : ((l.take (p + 1)).any fun f => cross f.p x) = true)]
                rfl)
              have HGA : Hid ((∀ j (h : j < l.length), j < p + 1 → cross l[j].p x = false) → goodAt l (p + 1) hlt = true) := fun hc => by
                rw [HG.out]
                rw [(by
                  rw [List.any_eq_false]
                  intro f hf
                  obtain ⟨j, hj, rfl⟩ := List.mem_take_iff_getElem.1 hf
                  rw [hc j (by omega) (by omega)]; simp : ((l.take (p + 1)).any fun f => cross f.p x) = false)]
                rfl
              clear kQ HB1 HG
              clear q1 q2 q3 q4 q5 q6 c1 c2 c3 c4
              go_wp2
              generalize wr = wa at *
              go_loopw [4] (fun i2 wr2 => ∃ q : Nat, q ≤ p + 1 ∧ i2 = .int .i64 q ∧ Below w.heap.size w wr2 ∧ wr2.cell? ⟨w.heap.size, 0, none⟩ = some (.slice (some ⟨b, o, none⟩) l.length cap) ∧ Hid (∀ j (h : j < l.length), j < q → cross l[j].p x = false)) (fun i2 _ => p + 1 - (intOf i2).toNat)
              case atStart => exact ⟨0, by omega, rfl, HB1', kB, fun j h h2 => absurd h2 (Nat.not_lt_zero j)⟩
              case round =>
                clear kB HB1'
                obtain ⟨q, hq, rfl, hbel2, hbox2, HQ⟩ := hrel
                by_cases hqp : q < p + 1
                · obtain ⟨b3, o3, e, d5, _, _⟩ := HC.out q (by omega)
                  cases e
                  obtain ⟨b4, o4, e, d6, _, _⟩ := HC.out (p + 1) hlt
                  cases e
                  have c5 : wr.cell? ⟨b, o + q * 3, none⟩ = _ := (hbel2.cell (World.block_lt_of_cell? w _ d5)).trans d5
                  have c6 : wr.cell? ⟨b, o + (p + 1) * 3, none⟩ = some (.string l[p + 1].p) := (hbel2.cell (World.block_lt_of_cell? w _ d6)).trans d6
                  rw [HX.out] at c6
                  have r1 : (q : Int) < (p : Int) + 1 := by omega
                  have r2 : (0 : Int) ≤ (q : Int) := by omega
                  have r3 : (q : Int) < (l.length : Int) := by omega
                  have l5 := World.block_lt_of_cell? wr _ hbox2
                  have l6 := World.block_lt_of_cell? wr _ c5
                  simp only at l5 l6
                  have HBQ := hidT (HBA.out q (by omega) hqp)
                  have HQ2 : Hid (cross l[q].p x = false → ∀ j (h : j < l.length), j < q + 1 → cross l[j].p x = false) := fun h0 j hj hjk => by
                    by_cases e : j = q
                    · subst e; exact h0
                    · exact HQ.out j hj (by omega)
                  have KX : Hid (∀ W, Calls Try.prog 81 #[.string l[q].p, .string x] W fun e w' => e = .returned (.bool (cross l[q].p x)) ∧ Below W.heap.size W w') := fun W => cross_any _ _ W
                  generalize cross l[q].p x = z at *
                  generalize l[q].p = up at *
                  have HB2 := hidT hbel2
                  clear d5 d6 hbel2 HBA
                  cases z
                  · have HQ3 := hidT (HQ2.out rfl)
                    clear HQ2 HBQ
                    go_wp2_with fail
                    go_region_held3 (fun w' => w'.cell? ⟨w.heap.size, 0, none⟩ = some (.slice (some ⟨b, o, none⟩) l.length cap) ∧ w'.cell? ⟨b, o + (p + 1) * 3, none⟩ = some (.string x) ∧ w'.cell? ⟨b, o + q * 3, none⟩ = some (.string up))
                      (first
                        | go_keep
                        | (exact kQ))
                      ((go_at_call 81; refine (KX.out _).mono ?_; rintro e w3 ⟨rfl, hb3⟩; have kQ : w3.cell? ⟨w.heap.size, 0, none⟩ = some (.slice (some ⟨b, o, none⟩) l.length cap) ∧ w3.cell? ⟨b, o + (p + 1) * 3, none⟩ = some (.string x) ∧ w3.cell? ⟨b, o + q * 3, none⟩ = some (.string up) := ⟨(hb3.cell (p := ⟨w.heap.size, 0, none⟩) l5).trans hbox2, (hb3.cell (p := ⟨b, o + (p + 1) * 3, none⟩) l6).trans c6, (hb3.cell (p := ⟨b, o + q * 3, none⟩) l6).trans c5⟩; have HB3 := hidT (HB2.out.drew.trans (hb3.mono HB2.out.size)); simp only [CutCall.shut_cut] at *))
                    unfold Hid
                    refine wpAnyH_done (by kernel_rfl) ?_ _
                    refine NoPanic.normal ?_
                    go_wp2
                    first
                      | exact ⟨⟨q + 1, by omega, by go_num, HB3.out, kQ.1, HQ3⟩, by simp [intOf]; omega⟩
                      | (refine ⟨⟨_, _, _, _, _, _, _, _, _, _, _, _, _, _, _, _, _, _, _, _, ⟨q + 1, by omega, by go_num, HB3.out, kQ.1, HQ3⟩, rfl⟩, ?_⟩; simp [intOf]; omega)
                  · have HN := hidT (HBQ.out rfl)
                    clear HQ2 HBQ
                    go_wp2_with fail
                    go_region_held3 (fun w' => w'.cell? ⟨w.heap.size, 0, none⟩ = some (.slice (some ⟨b, o, none⟩) l.length cap) ∧ w'.cell? ⟨b, o + (p + 1) * 3, none⟩ = some (.string x) ∧ w'.cell? ⟨b, o + q * 3, none⟩ = some (.string up))
                      (first
                        | go_keep
                        | (exact kQ))
                      ((go_at_call 81; refine (KX.out _).mono ?_; rintro e w3 ⟨rfl, hb3⟩; have kQ : w3.cell? ⟨w.heap.size, 0, none⟩ = some (.slice (some ⟨b, o, none⟩) l.length cap) ∧ w3.cell? ⟨b, o + (p + 1) * 3, none⟩ = some (.string x) ∧ w3.cell? ⟨b, o + q * 3, none⟩ = some (.string up) := ⟨(hb3.cell (p := ⟨w.heap.size, 0, none⟩) l5).trans hbox2, (hb3.cell (p := ⟨b, o + (p + 1) * 3, none⟩) l6).trans c6, (hb3.cell (p := ⟨b, o + q * 3, none⟩) l6).trans c5⟩; have HB3 := hidT (HB2.out.drew.trans (hb3.mono HB2.out.size)); simp only [CutCall.shut_cut] at *))
                    unfold Hid
                    refine wpAnyH_done (by kernel_rfl) ?_ _
                    refine NoPanic.normal ?_
                    go_wp2
                    go_ret
                    exact ⟨by rw [HN.out]; rfl, HB3.out⟩
                · obtain rfl : q = p + 1 := by omega
                  have HK2 : Hid (∀ j (h : j < l.length), j < p + 1 + 1 → goodAt l j h = true) := fun j hj hjk => by
                    by_cases e : j = p + 1
                    · subst e; exact HGA.out fun j hj hjp => HQ.out j hj hjp
                    · exact HK.out j hj (by omega)
                  have HB2 := hidT hbel2
                  clear hbel2
                  go_wp2
                  exact ⟨⟨p + 1 + 1, by omega, by go_num, HB2.out, hbox2, HK2⟩, by simp [intOf]; omega⟩
      · obtain rfl : k = l.length := by omega
        have HN : Hid (treeR l = true) := treeR_ok h6 fun i hi => HK.out i hi hi
        have HB := hidT hbel
        clear hbel
        go_wp2
        go_ret
        exact ⟨by rw [HN.out]; rfl, HB.out⟩
  · rw [treeR_big h6]
    have h6' : ¬ (l.length : Int) ≤ 6 := by omega
    clear hc hs
    go_enter Try.func42, Try.ntmps42
    go_wp2
    go_ret
    exact ⟨rfl, (Below.refl _ _).alloc (Nat.le_refl _) _⟩
end Go.Proofs.Ytfpgobkedfhakaa.Tre
