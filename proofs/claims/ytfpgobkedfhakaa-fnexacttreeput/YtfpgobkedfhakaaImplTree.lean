/- What the program's look at a tree answers. -/
import Derived.Test.YtfpgobkedfhakaaSpecTree
import Derived.Test.YtfpgobkedfhakaaImplPath
namespace Go.Proofs.Ytfpgobkedfhakaa.Tre
open Go.RowKit Go.Proofs.Ytfpgobkedfhakaa.Mem Go.Proofs.Ytfpgobkedfhakaa.Gf Go.Proofs.Ytfpgobkedfhakaa.Harn Go.Proofs.Ytfpgobkedfhakaa.Mark

set_option maxHeartbeats 1000000 in
theorem implFile_any (f : Fl) (w : World) (hd : f.d.size ≤ maxLen) : Calls Try.prog 48 #[f.val] w fun e w' => e = .returned (.bool (fileR f)) ∧ Below w.heap.size w w' := by
  have K1 : Hid (∀ W, Calls Try.prog 84 #[.string f.p] W fun e w' => e = .returned (.bool (pathR f.p)) ∧ Below W.heap.size W w') := fun W => implPath_any f.p W
  unfold fileR
  obtain ⟨p, m, d⟩ := f
  unfold Fl.val
  dsimp only at *
  unfold maxLen at hd
  have e3 : decide (d.size ≤ 80) = decide ((d.size : Int) ≤ 80) := decide_eq_decide.2 (by omega)
  rw [e3]
  clear e3
  generalize pathR p = z1 at *
  cases z1
  · go_enter Try.func48, Try.ntmps48
    go_wp2_with (go_at_call 84; refine (K1.out _).mono ?_; rintro e w1 ⟨rfl, hb1⟩; obtain ⟨hcc, hff⟩ := bcell hb1; simp at hcc hff)
    go_ret
    exact ⟨rfl, bstep ((Below.refl _ _).alloc (Nat.le_refl _) _) hb1⟩
  · by_cases h0 : 0 ≤ m
    · go_enter Try.func48, Try.ntmps48
      go_wp2_with (go_at_call 84; refine (K1.out _).mono ?_; rintro e w1 ⟨rfl, hb1⟩; obtain ⟨hcc, hff⟩ := bcell hb1; simp at hcc hff)
      all_goals go_ret
      all_goals (refine ⟨ret_b ?_, bstep ((Below.refl _ _).alloc (Nat.le_refl _) _) hb1⟩; rw [Bool.eq_iff_iff]; simp <;> omega)
    · go_enter Try.func48, Try.ntmps48
      go_wp2_with (go_at_call 84; refine (K1.out _).mono ?_; rintro e w1 ⟨rfl, hb1⟩; obtain ⟨hcc, hff⟩ := bcell hb1; simp at hcc hff)
      all_goals go_ret
      all_goals (refine ⟨ret_b ?_, bstep ((Below.refl _ _).alloc (Nat.le_refl _) _) hb1⟩; rw [Bool.eq_iff_iff]; simp <;> omega)

theorem ahead_cut {a b : ByteArray} (h : a.size < b.size) : ahead a b = ((b.extract 0 (a.size + 1)).toList == (a ++ (⟨#[47]⟩ : ByteArray)).toList) := by
  have e1 : (a ++ (⟨#[47]⟩ : ByteArray)).data.toList = a.data.toList ++ [47] := by simp
  unfold ahead
  rw [Lib.toList_data, Lib.toList_data, e1, decide_eq_true h, Bool.true_and]
  rw [Bool.eq_iff_iff]
  simp
set_option maxHeartbeats 1000000 in
theorem under_any (a b : ByteArray) (w : World) (ha : a.size ≤ 1000) : Calls Try.prog 87 #[.string b, .string a] w fun e w' => e = .returned (.bool (ahead a b)) ∧ w' = w := by
  have h1 : (⟨#[47]⟩ : ByteArray).size = 1 := rfl
  have hno : ¬ (9223372036854775807 : Nat) < a.size + (⟨#[47]⟩ : ByteArray).size := by omega
  by_cases h : a.size < b.size
  · rw [ahead_cut h]
    have p1 : (a.size : Int) + 1 ≤ (b.size : Int) := by omega
    go_enter Try.func87, Try.ntmps87
    go_wp2
    go_ret
    exact ⟨rfl, rfl⟩
  · rw [ahead_no h]
    have p1 : ¬ (a.size : Int) + 1 ≤ (b.size : Int) := by omega
    go_enter Try.func87, Try.ntmps87
    go_wp2
    go_ret
    exact ⟨rfl, rfl⟩
set_option maxHeartbeats 1000000 in
theorem clos_any (f : Fl) (x : ByteArray) (g : Nat) (w : World) (hf : f.p.size ≤ 1000) (hx : x.size ≤ 1000) (hbox : w.cell? ⟨g, 0, none⟩ = some (.string x)) :
    Calls Try.prog 86 #[f.val, .pointer (some ⟨g, 0, none⟩)] w fun e w' => e = .returned (.bool (cross f.p x)) ∧ Below w.heap.size w w' := by
  have K1 : Hid (∀ W, Calls Try.prog 87 #[.string f.p, .string x] W fun e w' => e = .returned (.bool (ahead x f.p)) ∧ w' = W) := fun W => under_any x f.p W hx
  have K2 : Hid (∀ W, Calls Try.prog 87 #[.string x, .string f.p] W fun e w' => e = .returned (.bool (ahead f.p x)) ∧ w' = W) := fun W => under_any f.p x W hf
  have hl := World.block_lt_of_cell? w _ hbox
  simp only at hl
  have hc : cross f.p x = (ahead x f.p || ahead f.p x) := by unfold cross; rw [Bool.or_comm]
  rw [hc]
  unfold Fl.val
  generalize ahead x f.p = z1 at *
  generalize ahead f.p x = z2 at *
  clear hc hf hx
  cases z1
  · go_enter Try.func86, Try.ntmps86
    go_wp2_with fail
    refine (K1.out _).mono ?_
    rintro e w1 ⟨rfl, rfl⟩
    go_wp2_with fail
    refine (K2.out _).mono ?_
    rintro e w1 ⟨rfl, rfl⟩
    go_wp2
    go_ret
    exact ⟨rfl, (Below.refl _ _).alloc (Nat.le_refl _) _⟩
  · go_enter Try.func86, Try.ntmps86
    go_wp2_with fail
    refine (K1.out _).mono ?_
    rintro e w1 ⟨rfl, rfl⟩
    go_wp2
    go_ret
    exact ⟨rfl, (Below.refl _ _).alloc (Nat.le_refl _) _⟩
set_option maxHeartbeats 1000000 in
theorem idxFile_any (v : Value) (l : List Fl) (x : ByteArray) (g : Nat) (w : World) (h : Files w v l) (hn : l.length ≤ 1000) (hp : ∀ y ∈ l, y.p.size ≤ 1000) (hx : x.size ≤ 1000) (hbox : w.cell? ⟨g, 0, none⟩ = some (.string x)) :
    Calls Try.prog 108 #[v, .func (.func 86) #[] #[.pointer (some ⟨g, 0, none⟩)]] w fun e w' => ∃ r : Int, e = .returned (.int .i64 r) ∧ decide (0 ≤ r) = (l.any fun f => cross f.p x) ∧ Below w.heap.size w w' := by
  obtain ⟨a, cap, rfl, hc⟩ := h
  have HC : Hid (RC w a l) := hc
  have HP := hidT hp
  have HBX := hidT hbox
  clear hc hp hbox
  go_enter Try.func108, Try.ntmps108
  go_wp2
  go_loopw [8] (fun i wr => ∃ k : Nat, k ≤ l.length ∧ i = .int .i64 k ∧ Below w.heap.size w wr ∧ Hid (∀ j (h : j < l.length), j < k → cross l[j].p x = false)) (fun i _ => l.length - (intOf i).toNat)
  case atStart => exact ⟨0, Nat.zero_le _, rfl, Below.refl _ _, fun j h h2 => absurd h2 (Nat.not_lt_zero j)⟩
  case round =>
    obtain ⟨k, hk, rfl, hbel, HK⟩ := hrel
    have HB := hidT hbel
    by_cases hlt : k < l.length
    · obtain ⟨b, o, rfl, d1, d2, d3⟩ := HC.out k hlt
      have c1 : wr.cell? ⟨b, o + k * 3, none⟩ = _ := (hbel.cell (World.block_lt_of_cell? w _ d1)).trans d1
      have c2 : wr.cell? ⟨b, o + k * 3 + 1, none⟩ = _ := (hbel.cell (World.block_lt_of_cell? w _ d2)).trans d2
      have c3 : wr.cell? ⟨b, o + k * 3 + 2, none⟩ = _ := (hbel.cell (World.block_lt_of_cell? w _ d3)).trans d3
      have hb2 : wr.cell? ⟨g, 0, none⟩ = _ := (hbel.cell (World.block_lt_of_cell? w _ HBX.out)).trans HBX.out
      have p1 : (k : Int) < (l.length : Int) := by omega
      have p0 : (0 : Int) ≤ (k : Int) := by omega
      have KC : Hid (∀ W, W.cell? ⟨g, 0, none⟩ = some (.string x) → Calls Try.prog 86 #[.agg #[.string l[k].p, .int .i64 l[k].m, .string l[k].d], .pointer (some ⟨g, 0, none⟩)] W fun e w' => e = .returned (.bool (cross l[k].p x)) ∧ Below W.heap.size W w') := fun W hW => clos_any l[k] x g W (HP.out _ (List.getElem_mem hlt)) hx hW
      have HANY : Hid (cross l[k].p x = true → (l.any fun f => cross f.p x) = true) := fun h => by
        rw [List.any_eq_true]; exact ⟨_, List.getElem_mem hlt, h⟩
      have HK2 : Hid (cross l[k].p x = false → ∀ j (h : j < l.length), j < k + 1 → cross l[j].p x = false) := fun h0 j hj hjk => by
        by_cases e : j = k
        · subst e; exact h0
        · exact HK.out j hj (by omega)
      generalize cross l[k].p x = z at *
      generalize l[k].p = y1 at *
      generalize l[k].m = y2 at *
      generalize l[k].d = y3 at *
      clear d1 d2 d3 hbel
      cases z
      · have HK3 := hidT (HK2.out rfl)
        clear HK2 HANY
        go_wp2_with (go_at_call 86; refine (KC.out _ hb2).mono ?_; rintro e w1 ⟨rfl, hb1⟩; have HB1 := hidT (HB.out.trans (hb1.mono HB.out.size)); clear hb1)
        go_roundw
        case rel => exact ⟨k + 1, by omega, by go_num, HB1.out, HK3⟩
        case measure => simp [intOf]; omega
      · have HT := hidT (HANY.out rfl)
        clear HK2 HANY
        go_wp2_with (go_at_call 86; refine (KC.out _ hb2).mono ?_; rintro e w1 ⟨rfl, hb1⟩; have HB1 := hidT (HB.out.trans (hb1.mono HB.out.size)); clear hb1)
        go_ret
        exact ⟨_, rfl, by rw [HT.out]; simp, HB1.out⟩
    · obtain rfl : k = l.length := by omega
      have HF : Hid ((l.any fun f => cross f.p x) = false) := by
        unfold Hid
        rw [List.any_eq_false]
        intro f hf
        obtain ⟨j, hj, rfl⟩ := List.getElem_of_mem hf
        rw [HK.out j hj hj]; simp
      clear hbel
      go_wp2
      go_ret
      exact ⟨_, rfl, by rw [HF.out]; rfl, HB.out⟩
set_option maxHeartbeats 1000000 in
theorem clashes_any (v : Value) (l : List Fl) (x : ByteArray) (w : World) (h : Files w v l) (hn : l.length ≤ 6) (hp : ∀ y ∈ l, y.p.size ≤ 20) (hx : x.size ≤ 20) :
    Calls Try.prog 49 #[v, .string x] w fun e w' => e = .returned (.bool (l.any fun f => cross f.p x)) ∧ Below w.heap.size w w' := by
  have KI : Hid (∀ W g, Files W v l → W.cell? ⟨g, 0, none⟩ = some (.string x) → Calls Try.prog 108 #[v, .func (.func 86) #[] #[.pointer (some ⟨g, 0, none⟩)]] W fun e w' => ∃ r : Int, e = .returned (.int .i64 r) ∧ decide (0 ≤ r) = (l.any fun f => cross f.p x) ∧ Below W.heap.size W w') := fun W g hW hg => idxFile_any v l x g W hW (by omega) (fun y hy => by have := hp y hy; omega) (by omega) hg
  have KC : Hid (∀ W g, Files W v l → W.cell? ⟨g, 0, none⟩ = some (.string x) → Calls Try.prog 85 #[v, .func (.func 86) #[] #[.pointer (some ⟨g, 0, none⟩)]] W fun e w' => e = .returned (.bool (l.any fun f => cross f.p x)) ∧ Below W.heap.size W w') := fun W g hW hg => by
    go_enter Try.func85, Try.ntmps85
    go_wp2_with fail
    refine (KI.out _ _ hW hg).mono ?_
    rintro e w1 ⟨r, rfl, hr, hb1⟩
    go_wp2
    go_ret
    exact ⟨by rw [← hr]; rfl, hb1⟩
  have HF := hidT h
  clear h hn hp hx
  have hmf : ∀ (fn : Fn) (first cap : Array Value) (W : World), (Instr.makeFunc fn first cap).run Try.prog W = .ok (.func fn first cap) W := fun _ _ _ _ => rfl
  go_enter Try.func49, Try.ntmps49
  go_wp2_with fail
  refine (KC.out _ _ (Files.below HF.out ((Below.refl _ _).alloc (Nat.le_refl _) _)) (by simp)).mono ?_
  rintro e w1 ⟨rfl, hb1⟩
  go_wp2
  go_ret
  exact ⟨rfl, bstep ((Below.refl _ _).alloc (Nat.le_refl _) _) hb1⟩
end Go.Proofs.Ytfpgobkedfhakaa.Tre
