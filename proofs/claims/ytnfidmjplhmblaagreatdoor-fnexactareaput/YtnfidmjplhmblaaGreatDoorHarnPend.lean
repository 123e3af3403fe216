/- What the laws' own functions on lists of pending writes answer. -/
import Derived.Test.YtnfidmjplhmblaaGreatDoorHarnStr
namespace Go.Proofs.YtnfidmjplhmblaaGreatDoor.Harn
open Go.RowKit Go.Proofs.YtnfidmjplhmblaaGreatDoor.Mem Go.Proofs.YtnfidmjplhmblaaGreatDoor.Mark

/-- The slice v reads as the pending writes l. -/
def Pends (W : World) (v : Value) (l : List (Int × ByteArray)) : Prop :=
  ∃ a cap, v = .slice a l.length cap ∧ ∀ j (h : j < l.length), ∃ b o, a = some ⟨b, o, none⟩ ∧ W.cell? ⟨b, o + j * 2, none⟩ = some (.int .i64 l[j].1) ∧ W.cell? ⟨b, o + j * 2 + 1, none⟩ = some (.string l[j].2)

theorem Pends.below {W W' : World} {v : Value} {l : List (Int × ByteArray)} (h : Pends W v l) (hb : Below W.heap.size W W') : Pends W' v l := by
  obtain ⟨a, cap, hv, hc⟩ := h
  refine ⟨a, cap, hv, fun j hj => ?_⟩
  obtain ⟨b, o, ha, h1, h2⟩ := hc j hj
  refine ⟨b, o, ha, ?_, ?_⟩
  · rw [hb.cell (World.block_lt_of_cell? W _ h1)]; exact h1
  · rw [hb.cell (World.block_lt_of_cell? W _ h2)]; exact h2

theorem toPend1 (x : Int) (t : ByteArray) (w : World) :
    Calls Tryz.prog 48 #[.agg #[.int .i64 x, .string t]] w fun e w' => e = .returned (.agg #[.int .i64 x, .string t]) ∧ Below w.heap.size w w' := by
  go_enter Tryz.func48, Tryz.ntmps48
  go_wp2
  exact bodyPost_ret (v := .agg #[.int .i64 x, .string t]) (by simp [results, Tryz.results48, go_sem]) rfl ⟨rfl, (((Below.refl _ _).alloc (Nat.le_refl _) _).alloc (by simp) _).alloc (by simp; omega) _⟩

theorem eqPend1 (x : Int) (t : ByteArray) (w : World) :
    Calls Tryz.prog 56 #[.agg #[.int .i64 x, .string t], .agg #[.int .i64 x, .string t]] w fun e w' => e = .returned (.bool true) ∧ Below w.heap.size w w' := by
  go_enter Tryz.func56, Tryz.ntmps56
  go_wp2
  go_ret
  exact ⟨rfl, ((Below.refl _ _).alloc (Nat.le_refl _) _).alloc (by simp) _⟩

set_option maxHeartbeats 1000000 in
theorem eqPend_any (v u : Value) (l : List (Int × ByteArray)) (w : World) (h : Pends w v l) (h2 : Pends w u l) (hn : l.length ≤ 1100000) :
    Calls Tryz.prog 36 #[v, u] w fun e w' => e = .returned (.bool true) ∧ Below w.heap.size w w' := by
  obtain ⟨a, cap, rfl, hc⟩ := h
  obtain ⟨a2, cap2, rfl, hc2⟩ := h2
  have HC : Hid (∀ j (h : j < l.length), ∃ b o, a = some ⟨b, o, none⟩ ∧ w.cell? ⟨b, o + j * 2, none⟩ = some (.int .i64 l[j].1) ∧ w.cell? ⟨b, o + j * 2 + 1, none⟩ = some (.string l[j].2)) := hc
  have HC2 : Hid (∀ j (h : j < l.length), ∃ b o, a2 = some ⟨b, o, none⟩ ∧ w.cell? ⟨b, o + j * 2, none⟩ = some (.int .i64 l[j].1) ∧ w.cell? ⟨b, o + j * 2 + 1, none⟩ = some (.string l[j].2)) := hc2
  clear hc hc2
  go_enter Tryz.func36, Tryz.ntmps36
  go_wp2
  go_loopw [5] (fun i wr => ∃ k : Nat, k ≤ l.length ∧ i = .int .i64 k ∧ Below w.heap.size w wr) (fun i _ => l.length - (intOf i).toNat)
  case atStart => exact ⟨0, by omega, rfl, Below.refl _ _⟩
  case round =>
    obtain ⟨k, hk, rfl, hbel⟩ := hrel
    by_cases hlt : k < l.length
    · obtain ⟨b, o, rfl, d1, d2⟩ := HC.out k hlt
      obtain ⟨b2, o2, rfl, d3, d4⟩ := HC2.out k hlt
      have c1 : wr.cell? ⟨b, o + k * 2, none⟩ = _ := (hbel.cell (World.block_lt_of_cell? w _ d1)).trans d1
      have c2 : wr.cell? ⟨b, o + k * 2 + 1, none⟩ = _ := (hbel.cell (World.block_lt_of_cell? w _ d2)).trans d2
      have c3 : wr.cell? ⟨b2, o2 + k * 2, none⟩ = _ := (hbel.cell (World.block_lt_of_cell? w _ d3)).trans d3
      have c4 : wr.cell? ⟨b2, o2 + k * 2 + 1, none⟩ = _ := (hbel.cell (World.block_lt_of_cell? w _ d4)).trans d4
      have p1 : (k : Int) < (l.length : Int) := by omega
      generalize l[k].1 = x at *
      generalize l[k].2 = t at *
      have HB : Hid (Below w.heap.size w wr) := hbel
      clear d1 d2 d3 d4 hbel
      go_wp2_with fail
      go_region_with (go_at_call 56; refine (eqPend1 _ _ _).mono ?_; rintro e w1 ⟨rfl, hb1⟩)
      all_goals (have HB1 : Hid (Below w.heap.size w w1) := HB.out.drew.trans (hb1.mono HB.out.size))
      all_goals clear hb1
      all_goals go_wp2
      all_goals go_roundw
      all_goals first
        | exact ⟨k + 1, by omega, by go_num, HB1.out⟩
        | (simp [intOf]; omega)
    · have e : k = l.length := by omega
      subst e
      go_wp2
      go_ret
      exact ⟨rfl, hbel⟩

/-- The pending writes l lie in block g from place o on, and may be written. -/
def PendsAt (W : World) (g o : Nat) (l : List (Int × ByteArray)) : Prop := ∀ j (h : j < l.length), W.cell? ⟨g, o + j * 2, none⟩ = some (.int .i64 l[j].1) ∧ W.cell? ⟨g, o + j * 2 + 1, none⟩ = some (.string l[j].2) ∧ W.frozen? ⟨g, o + j * 2, none⟩ = false ∧ W.frozen? ⟨g, o + j * 2 + 1, none⟩ = false

theorem PendsAt.pends {W : World} {g o : Nat} {l : List (Int × ByteArray)} (h : PendsAt W g o l) (c : Nat) : Pends W (.slice (some ⟨g, o, none⟩) l.length c) l :=
  ⟨_, c, rfl, fun j hj => ⟨g, o, rfl, (h j hj).1, (h j hj).2.1⟩⟩
theorem PendsAt.below {W W' : World} {g o : Nat} {l : List (Int × ByteArray)} (h : PendsAt W g o l) (hb : Below W.heap.size W W') : PendsAt W' g o l := fun j hj => by
  obtain ⟨h1, h2, h3, h4⟩ := h j hj
  have l1 := World.block_lt_of_cell? W _ h1
  have l2 := World.block_lt_of_cell? W _ h2
  exact ⟨(hb.cell l1).trans h1, (hb.cell l2).trans h2, (hb.frozen l1).trans h3, (hb.frozen l2).trans h4⟩
theorem PendsAt.set {W : World} {g o i : Nat} {l : List (Int × ByteArray)} (h : PendsAt W g o l) (hi : i < l.length) (x : Int) (t : ByteArray) : PendsAt ((W.setCell ⟨g, o + i * 2, none⟩ (.int .i64 x)).setCell ⟨g, o + i * 2 + 1, none⟩ (.string t)) g o (l.set i (x, t)) := fun j hj => by
  have hj2 : j < l.length := by simpa using hj
  obtain ⟨h1, h2, h3, h4⟩ := h j hj2
  obtain ⟨k1, k2, _, _⟩ := h i hi
  refine ⟨?_, ?_, by simpa using h3, by simpa using h4⟩
  · rw [World.cell?_setCell_other _ _ _ _ (by intro e; injection e with _ e2 _; omega)]
    by_cases e : i = j
    · subst e
      rw [List.getElem_set_self]
      exact World.cell?_setCell_same _ _ _ k1
    · rw [List.getElem_set_ne e, World.cell?_setCell_other _ _ _ _ (by intro e; injection e with _ e2 _; omega)]
      exact h1
  · by_cases e : i = j
    · subst e
      rw [List.getElem_set_self]
      refine World.cell?_setCell_same _ _ _ (u := .string l[i].2) ?_
      rw [World.cell?_setCell_other _ _ _ _ (by intro e; injection e with _ e2 _; omega)]
      exact k2
    · rw [List.getElem_set_ne e, World.cell?_setCell_other _ _ _ _ (by intro e; injection e with _ e2 _; omega), World.cell?_setCell_other _ _ _ _ (by intro e; injection e with _ e2 _; omega)]
      exact h2

theorem infoPend : (Tryz.prog.info? 76).map (fun i => (i.zero, i.size, i.bytes)) = some (some (.agg #[.int .i64 0, .string ByteArray.empty]), 2, 24) := by kernel_rfl
theorem underPends : Tryz.prog.underlying 27 = some (.slice 76) := by kernel_rfl

theorem make_pends (n : Nat) (hn : n ≤ 2000000) (w : World) :
    ∃ W1, (Instr.makeSlice 27 (.int .i64 (n : Int)) (.int .i64 (n : Int))).run Tryz.prog w = .ok (.slice (some ⟨w.heap.size, 0, none⟩) n n) W1 ∧ PendsAt W1 w.heap.size 0 (List.replicate n (0, ByteArray.empty)) ∧ Below w.heap.size w W1 ∧ W1.heap.size = w.heap.size + 1 := by
  obtain ⟨i, hi, hz, hs, hb⟩ := info_parts infoPend
  have hr := run_make (P := Tryz.prog) w 27 76 i _ underPends hi hz .i64 .i64 (n : Int) (n : Int) (by omega) (by omega) (by rw [hb]; omega) (by omega)
  simp only [Int.toNat_natCast] at hr
  refine ⟨_, hr, fun j hj => ?_, (Below.refl _ _).alloc (Nat.le_refl _) _, by simp⟩
  have hjn : j < n := by simpa using hj
  rw [hs]
  have e0 : (Value.agg #[.int .i64 0, .string ByteArray.empty]).cells = #[.int .i64 0, .string ByteArray.empty] := rfl
  rw [e0]
  refine ⟨?_, ?_, by simp, by simp⟩
  · have h1 : (j * 2) % 2 = 0 := by omega
    simp [madeCells, show j * 2 < n * 2 by omega, h1]
  · have h1 : (j * 2 + 1) % 2 = 1 := by omega
    simp [madeCells, show j * 2 + 1 < n * 2 by omega, h1]

/-- A list of pending writes of which the first k are laid. -/
def pcopy (l : List (Int × ByteArray)) (k : Nat) : List (Int × ByteArray) := l.take k ++ List.replicate (l.length - k) (0, ByteArray.empty)
theorem length_pcopy (l : List (Int × ByteArray)) (k : Nat) (h : k ≤ l.length) : (pcopy l k).length = l.length := by simp [pcopy]; omega
theorem pcopy_start (l : List (Int × ByteArray)) : pcopy l 0 = List.replicate l.length (0, ByteArray.empty) := by simp [pcopy]
theorem pcopy_end (l : List (Int × ByteArray)) : pcopy l l.length = l := by simp [pcopy]
theorem pcopy_set (l : List (Int × ByteArray)) (k : Nat) (hk : k < l.length) : (pcopy l k).set k l[k] = pcopy l (k + 1) := by
  have hl : (l.take k).length = k := by simp; omega
  unfold pcopy
  rw [List.set_append_right _ _ (by omega), hl, Nat.sub_self, show l.length - k = (l.length - (k + 1)) + 1 by omega, List.replicate_succ, List.set_cons_zero, List.take_succ_eq_append_getElem hk]
  simp only [List.append_assoc, List.singleton_append]

set_option maxHeartbeats 1000000 in
theorem toPend_any (v : Value) (l : List (Int × ByteArray)) (w : World) (h : Pends w v l) (hn : l.length ≤ 1100000) :
    Calls Tryz.prog 27 #[v] w fun e w' => e = .returned (.slice (some ⟨w.heap.size, 0, none⟩) l.length l.length) ∧ PendsAt w' w.heap.size 0 l ∧ Below w.heap.size w w' ∧ w.heap.size < w'.heap.size := by
  obtain ⟨a, cap, rfl, hc⟩ := h
  have HC : Hid (∀ j (h : j < l.length), ∃ b o, a = some ⟨b, o, none⟩ ∧ w.cell? ⟨b, o + j * 2, none⟩ = some (.int .i64 l[j].1) ∧ w.cell? ⟨b, o + j * 2 + 1, none⟩ = some (.string l[j].2)) := hc
  obtain ⟨W1, hmk, hr1, hb1, hz1⟩ := make_pends l.length (by omega) w
  have HR : Hid _ := hr1
  have HB : Hid (Below w.heap.size w W1) := hb1
  have HZ : Hid (w.heap.size < W1.heap.size) := by unfold Hid; omega
  clear hc hr1 hb1 hz1
  go_enter Tryz.func27, Tryz.ntmps27
  go_wp2
  go_loopw [4] (fun i wr => ∃ k : Nat, k ≤ l.length ∧ i = .int .i64 k ∧ PendsAt wr w.heap.size 0 (pcopy l k) ∧ Below w.heap.size w wr ∧ w.heap.size < wr.heap.size) (fun i _ => l.length - (intOf i).toNat)
  case atStart => exact ⟨0, by omega, rfl, by rw [pcopy_start]; exact HR.out, HB.out, HZ.out⟩
  case round =>
    clear HR HB HZ
    obtain ⟨k, hk, rfl, hrow, hbel, hsz⟩ := hrel
    by_cases hlt : k < l.length
    · obtain ⟨b, o, rfl, d1, d2⟩ := HC.out k hlt
      have c1 : wr.cell? ⟨b, o + k * 2, none⟩ = _ := (hbel.cell (World.block_lt_of_cell? w _ d1)).trans d1
      have c2 : wr.cell? ⟨b, o + k * 2 + 1, none⟩ = _ := (hbel.cell (World.block_lt_of_cell? w _ d2)).trans d2
      have hlp := length_pcopy l k hk
      obtain ⟨e1, e2, f1, f2⟩ := hrow k (by omega)
      simp only [Nat.zero_add] at e1 e2 f1 f2
      have HROW : Hid (PendsAt wr w.heap.size 0 (pcopy l k)) := hrow
      have HE : Hid ((pcopy l k).set k (l[k].1, l[k].2) = pcopy l (k + 1)) := pcopy_set l k hlt
      have p1 : (k : Int) < (l.length : Int) := by omega
      generalize l[k].1 = x at *
      generalize l[k].2 = t at *
      generalize (pcopy l k)[k].1 = x0 at *
      generalize (pcopy l k)[k].2 = t0 at *
      clear d1 d2 hrow
      go_wp2_with (go_at_call 48; refine (toPend1 _ _ _).mono ?_; rintro e w1 ⟨rfl, hb1⟩; obtain ⟨hcc, hff⟩ := bcell hb1)
      have HSN : Hid (PendsAt ((w1.setCell ⟨w.heap.size, k * 2, none⟩ (.int .i64 x)).setCell ⟨w.heap.size, k * 2 + 1, none⟩ (.string t)) w.heap.size 0 (pcopy l (k + 1))) := by
        unfold Hid
        rw [← HE.out]
        have := (PendsAt.below HROW.out hb1).set (i := k) (by omega) x t
        simpa using this
      have HB1 : Hid (Below w.heap.size w w1) := hbel.trans (hb1.mono hbel.size)
      have hz1 := hb1.size
      clear hcc hff
      go_roundw
      case rel => exact ⟨k + 1, by omega, by go_num, HSN.out, (HB1.out.setCell (p := ⟨w.heap.size, k * 2, none⟩) (Nat.le_refl _) _).setCell (p := ⟨w.heap.size, k * 2 + 1, none⟩) (Nat.le_refl _) _, by simp; omega⟩
      case measure => simp [intOf]; omega
    · have e : k = l.length := by omega
      subst e
      rw [pcopy_end] at hrow
      have HR : Hid _ := hrow
      have HB : Hid (Below w.heap.size w wr) := hbel
      have HSZ : Hid (w.heap.size < wr.heap.size) := hsz
      clear hrow hbel hsz
      go_wp2
      go_ret
      exact ⟨rfl, HR.out, HB.out, HSZ.out⟩
end Go.Proofs.YtnfidmjplhmblaaGreatDoor.Harn
