/- What the laws' own functions on lists of texts answer: sized, copied, compared, marked, held. -/
import Derived.Test.YtpabgbjfkaiacaaMarkText
import Derived.BigRegion
import Derived.Deep.QuietTactic
import Derived.BigQuiet
import Derived.Deep.RegionWith
namespace Go.Proofs.Ytpabgbjfkaiacaa.Harn
open Go.RowKit Go.Proofs.Ytpabgbjfkaiacaa.Mem Go.Proofs.Ytpabgbjfkaiacaa.Mark

/-- The slice v reads as the texts l. -/
def Strs (W : World) (v : Value) (l : List ByteArray) : Prop :=
  ∃ a cap, v = .slice a l.length cap ∧ ∀ j (h : j < l.length), ∃ b o, a = some ⟨b, o, none⟩ ∧ W.cell? ⟨b, o + j, none⟩ = some (.string l[j])

theorem Strs.below {W W' : World} {v : Value} {l : List ByteArray} (h : Strs W v l) (hb : Below W.heap.size W W') : Strs W' v l := by
  obtain ⟨a, cap, hv, hc⟩ := h
  refine ⟨a, cap, hv, fun j hj => ?_⟩
  obtain ⟨b, o, ha, hcell⟩ := hc j hj
  refine ⟨b, o, ha, ?_⟩
  rw [hb.cell (World.block_lt_of_cell? W _ hcell)]
  exact hcell
theorem Strs.drewN {W : World} {v : Value} {l : List ByteArray} (h : Strs W v l) (n : Nat) : Strs (W.drewN n) v l := h

theorem infoStr : (Try.prog.info? 9).map (fun i => (i.zero, i.size, i.bytes)) = some (some (.string ByteArray.empty), 1, 16) := by kernel_rfl
theorem underStrs : Try.prog.underlying 31 = some (.slice 9) := by kernel_rfl

theorem make_strs (n : Nat) (hn : n ≤ 2000000) (w : World) :
    ∃ W1, (Instr.makeSlice 31 (.int .i64 (n : Int)) (.int .i64 (n : Int))).run Try.prog w = .ok (.slice (some ⟨w.heap.size, 0, none⟩) n n) W1 ∧ HasRow W1 w.heap.size (List.replicate n (.string ByteArray.empty)) 9 ∧ Below w.heap.size w W1 ∧ W1.heap.size = w.heap.size + 1 := by
  refine ⟨_, run_make_row' (P := Try.prog) 31 9 (.string ByteArray.empty) 16 underStrs infoStr rfl .i64 .i64 n (by omega) (by omega) w, ?_, (Below.refl _ _).alloc (Nat.le_refl _) _, by simp⟩
  unfold HasRow
  rw [← toList_madeCells_one]
  show (w.heap.push _)[w.heap.size]? = _
  simp

/-- A list of texts of which the first k are laid. -/
def copyTo (l : List ByteArray) (k : Nat) : List Value := (l.take k).map Value.string ++ List.replicate (l.length - k) (.string ByteArray.empty)
theorem copyTo_start (l : List ByteArray) : copyTo l 0 = List.replicate l.length (.string ByteArray.empty) := by simp [copyTo]
theorem copyTo_end (l : List ByteArray) : copyTo l l.length = l.map Value.string := by simp [copyTo]
theorem copyTo_cell (l : List ByteArray) (k : Nat) (hk : k < l.length) : (copyTo l k)[k]? = some (.string ByteArray.empty) := by
  have hl : ((l.take k).map Value.string).length = k := by simp; omega
  unfold copyTo
  rw [List.getElem?_append_right (by omega), hl, Nat.sub_self, List.getElem?_replicate, if_pos (by omega)]
theorem copyTo_set (l : List ByteArray) (k : Nat) (hk : k < l.length) : (copyTo l k).set k (.string l[k]) = copyTo l (k + 1) := by
  have hl : ((l.take k).map Value.string).length = k := by simp; omega
  unfold copyTo
  rw [List.set_append_right _ _ (by omega), hl, Nat.sub_self, show l.length - k = (l.length - (k + 1)) + 1 by omega, List.replicate_succ, List.set_cons_zero, List.take_succ_eq_append_getElem hk]
  simp only [List.map_append, List.map_cons, List.map_nil, List.append_assoc, List.singleton_append]

set_option maxHeartbeats 1000000 in
theorem eqStr_any (v u : Value) (l : List ByteArray) (w : World) (h : Strs w v l) (h2 : Strs w u l) (hn : l.length ≤ 1100000) :
    Calls Try.prog 21 #[v, u] w fun e w' => e = .returned (.bool true) ∧ ∃ n, w' = w.drewN n := by
  obtain ⟨a, cap, rfl, hc⟩ := h
  obtain ⟨a2, cap2, rfl, hc2⟩ := h2
  have HC : Hid (∀ j (h : j < l.length), ∃ b o, a = some ⟨b, o, none⟩ ∧ w.cell? ⟨b, o + j, none⟩ = some (.string l[j])) := hc
  have HC2 : Hid (∀ j (h : j < l.length), ∃ b o, a2 = some ⟨b, o, none⟩ ∧ w.cell? ⟨b, o + j, none⟩ = some (.string l[j])) := hc2
  clear hc hc2
  go_enter Try.func21, Try.ntmps21
  go_wp2
  go_loopw [5] (fun i wr => ∃ k : Nat, k ≤ l.length ∧ i = .int .i64 k ∧ ∃ n, wr = w.drewN n) (fun i _ => l.length - (intOf i).toNat)
  case atStart => exact ⟨0, by omega, rfl, 0, rfl⟩
  case round =>
    obtain ⟨k, hk, rfl, n, rfl⟩ := hrel
    by_cases hlt : k < l.length
    · obtain ⟨b, o, rfl, c1⟩ := HC.out k hlt
      obtain ⟨b2, o2, rfl, c2⟩ := HC2.out k hlt
      have p1 : (k : Int) < (l.length : Int) := by omega
      generalize l[k] = t at *
      go_wp2_with fail
      go_quiet (fail)
      go_wp2
      go_roundw
      case rel => exact ⟨k + 1, by omega, by go_num, _, rfl⟩
      case measure => simp [intOf]; omega
    · have e : k = l.length := by omega
      subst e
      go_wp2
      go_ret
      exact ⟨rfl, n, rfl⟩

/-- What a list of texts weighs. -/
def wt : List ByteArray → Nat
  | [] => 0
  | t :: l => t.size + wt l
theorem wt_append (a b : List ByteArray) : wt (a ++ b) = wt a + wt b := by
  induction a with
  | nil => simp [wt]
  | cons t a ih => simp only [List.cons_append, wt, ih]; omega
theorem wt_take (l : List ByteArray) (k : Nat) (h : k < l.length) : wt (l.take (k + 1)) = wt (l.take k) + l[k].size := by
  rw [List.take_succ_eq_append_getElem h, wt_append]
  simp [wt]
theorem wt_le (l : List ByteArray) (k : Nat) : wt (l.take k) ≤ wt l := by
  have h := wt_append (l.take k) (l.drop k)
  rw [List.take_append_drop] at h
  omega

theorem bcell {W w1 : World} (hb : Below W.heap.size W w1) : (∀ b o, b < W.heap.size → w1.cell? ⟨b, o, none⟩ = W.cell? ⟨b, o, none⟩) ∧ (∀ b o, b < W.heap.size → w1.frozen? ⟨b, o, none⟩ = W.frozen? ⟨b, o, none⟩) :=
  ⟨fun b o h => hb.cell (p := ⟨b, o, none⟩) h, fun b o h => hb.frozen (p := ⟨b, o, none⟩) h⟩

/-- The texts l lie in block g from place o on, and may be written. -/
def StrsAt (W : World) (g o : Nat) (l : List ByteArray) : Prop := ∀ j (h : j < l.length), W.cell? ⟨g, o + j, none⟩ = some (.string l[j]) ∧ W.frozen? ⟨g, o + j, none⟩ = false

theorem StrsAt.strs {W : World} {g o : Nat} {l : List ByteArray} (h : StrsAt W g o l) (c : Nat) : Strs W (.slice (some ⟨g, o, none⟩) l.length c) l :=
  ⟨_, c, rfl, fun j hj => ⟨g, o, rfl, (h j hj).1⟩⟩
theorem StrsAt.below {W W' : World} {g o : Nat} {l : List ByteArray} (h : StrsAt W g o l) (hb : Below W.heap.size W W') : StrsAt W' g o l := fun j hj => by
  have hl := World.block_lt_of_cell? W _ (h j hj).1
  rw [hb.cell hl, hb.frozen hl]
  exact h j hj
theorem StrsAt.set {W : World} {g o i : Nat} {l : List ByteArray} (h : StrsAt W g o l) (hi : i < l.length) (t : ByteArray) : StrsAt (W.setCell ⟨g, o + i, none⟩ (.string t)) g o (l.set i t) := fun j hj => by
  have hj2 : j < l.length := by simpa using hj
  refine ⟨?_, ?_⟩
  · by_cases e : i = j
    · subst e
      rw [List.getElem_set_self]
      exact World.cell?_setCell_same _ _ _ (h i hi).1
    · rw [List.getElem_set_ne e]
      rw [World.cell?_setCell_other W _ _ _ (by intro h2; injection h2 with _ h3 _; omega)]
      exact (h j hj2).1
  · have := (h j hj2).2
    simpa using this

/-- The first i of the texts are marked. -/
def markTo (l : List ByteArray) (k i : Nat) : List ByteArray := marks k i ++ l.drop i
theorem length_markTo (l : List ByteArray) (k i : Nat) (h : i ≤ l.length) : (markTo l k i).length = l.length := by simp [markTo, length_marks]; omega
theorem markTo_start (l : List ByteArray) (k : Nat) : markTo l k 0 = l := by simp [markTo, marks]
theorem markTo_end (l : List ByteArray) (k : Nat) : markTo l k l.length = marks k l.length := by simp [markTo]
theorem markTo_set (l : List ByteArray) (k i : Nat) (h : i < l.length) : (markTo l k i).set i (markB (k + i)) = markTo l k (i + 1) := by
  have hl := length_marks k i
  unfold markTo
  rw [List.set_append_right _ _ (by omega), hl, Nat.sub_self, List.drop_eq_getElem_cons h, List.set_cons_zero]
  simp [marks, List.range_succ]

set_option maxHeartbeats 1000000 in
theorem markStr_any (g o c k : Nat) (l : List ByteArray) (w : World) (h : StrsAt w g o l) (hn : l.length ≤ 1100000) (hk : k ≤ 100000000) :
    Calls Try.prog 22 #[.slice (some ⟨g, o, none⟩) l.length c, .int .i64 (k : Int)] w fun e w' => e = .returned (.int .i64 ((k + l.length : Nat) : Int)) ∧ StrsAt w' g o (marks k l.length) ∧ w.grownBy w' (some g) := by
  have HS : Hid (StrsAt w g o l) := h
  clear h
  go_enter Try.func22, Try.ntmps22
  go_wp2
  go_loopw [1, 5] (fun kk i wr => ∃ j : Nat, j ≤ l.length ∧ i = .int .i64 j ∧ kk = .int .i64 ((k + j : Nat) : Int) ∧ StrsAt wr g o (markTo l k j) ∧ w.grownBy wr (some g)) (fun _ i _ => l.length - (intOf i).toNat)
  case atStart => exact ⟨0, by omega, rfl, rfl, by rw [markTo_start]; exact HS.out, ⟨rfl, rfl, rfl, Nat.le_refl _, fun _ _ _ => rfl⟩⟩
  case round =>
    clear HS
    obtain ⟨j, hj, rfl, rfl, hst, hgr⟩ := hrel
    by_cases hlt : j < l.length
    · have hlm := length_markTo l k j hj
      have HST : Hid (StrsAt wr g o (markTo l k j)) := hst
      obtain ⟨c1, f1⟩ := hst j (by omega)
      have hgl := World.block_lt_of_cell? wr _ c1
      simp only at hgl
      have HM : Hid (∀ W, Calls Try.prog 45 #[.int .i64 ((k : Int) + (j : Int))] W fun e w' => e = .returned (.string (markB (k + j))) ∧ Below W.heap.size W w') := fun W => markText_any (k + j) W (by omega)
      have HE : Hid ((markTo l k j).set j (markB (k + j)) = markTo l k (j + 1)) := markTo_set l k j hlt
      generalize (markTo l k j)[j] = t0 at *
      generalize markB (k + j) = t1 at *
      have p1 : (j : Int) < (l.length : Int) := by omega
      clear hst
      go_wp2_with (go_at_call 45; refine (HM.out _).mono ?_; rintro e w1 ⟨rfl, hb1⟩; obtain ⟨hcc, hff⟩ := bcell hb1)
      have HSN : Hid (StrsAt (w1.setCell ⟨g, o + j, none⟩ (.string t1)) g o (markTo l k (j + 1))) := by
        unfold Hid
        rw [← HE.out]
        exact (StrsAt.below HST.out hb1).set (by omega) t1
      have HGN : Hid (w.grownBy (w1.setCell ⟨g, o + j, none⟩ (.string t1)) (some g)) := by
        refine ⟨hb1.os.trans hgr.os, hb1.tape.trans hgr.tape, hb1.output.trans hgr.output, ?_, fun q hq hne => ?_⟩
        · have := hgr.size; have := hb1.size; simp; omega
        · rw [Below.heap_setCell w1 _ _ q (by simpa using hne), hb1.block q (by have := hgr.size; omega), hgr.block q hq hne]
      go_roundw
      case rel => exact ⟨j + 1, by omega, by go_num, by congr 1 <;> omega, HSN.out, HGN.out⟩
      case measure => simp [intOf]; omega
    · have e : j = l.length := by omega
      subst e
      rw [markTo_end] at hst
      have HST : Hid _ := hst
      clear hst
      go_wp2
      go_ret
      exact ⟨by congr 2, HST.out, hgr⟩

set_option maxHeartbeats 1000000 in
theorem heldStr_any (v : Value) (k n : Nat) (w : World) (h : Strs w v (marks k n)) (hn : n ≤ 1100000) (hk : k ≤ 100000000) :
    Calls Try.prog 23 #[v, .int .i64 (k : Int)] w fun e w' => e = .returned (.int .i64 ((k + n : Nat) : Int)) ∧ Below w.heap.size w w' := by
  obtain ⟨a, cap, rfl, hc⟩ := h
  rw [length_marks]
  have HC : Hid (∀ j (h : j < n), ∃ b o, a = some ⟨b, o, none⟩ ∧ w.cell? ⟨b, o + j, none⟩ = some (.string (markB (k + j)))) := fun j hj => by
    obtain ⟨b, o, h1, h2⟩ := hc j (by rw [length_marks]; exact hj)
    exact ⟨b, o, h1, by rw [h2]; simp [marks]⟩
  clear hc
  go_enter Try.func23, Try.ntmps23
  go_wp2
  go_loopw [1, 5] (fun kk i wr => ∃ j : Nat, j ≤ n ∧ i = .int .i64 j ∧ kk = .int .i64 ((k + j : Nat) : Int) ∧ Below w.heap.size w wr) (fun _ i _ => n - (intOf i).toNat)
  case atStart => exact ⟨0, by omega, rfl, rfl, Below.refl _ _⟩
  case round =>
    obtain ⟨j, hj, rfl, rfl, hbel⟩ := hrel
    by_cases hlt : j < n
    · obtain ⟨b, o, rfl, c0⟩ := HC.out j hlt
      have c1 : wr.cell? ⟨b, o + j, none⟩ = some (.string (markB (k + j))) := by rw [hbel.cell (World.block_lt_of_cell? w _ c0)]; exact c0
      have hbl := World.block_lt_of_cell? wr _ c1
      simp only at hbl
      have HM : Hid (∀ W, Calls Try.prog 45 #[.int .i64 ((k : Int) + (j : Int))] W fun e w' => e = .returned (.string (markB (k + j))) ∧ Below W.heap.size W w') := fun W => markText_any (k + j) W (by omega)
      generalize markB (k + j) = t1 at *
      have p1 : (j : Int) < (n : Int) := by omega
      have HB : Hid (Below w.heap.size w wr) := hbel
      clear hbel c0
      go_wp2_with fail
      go_region_with (go_at_call 45; refine (HM.out _).mono ?_; rintro e w1 ⟨rfl, hb1⟩; obtain ⟨hcc, hff⟩ := bcell hb1; simp at hcc hff)
      all_goals (have HB1 : Hid (Below w.heap.size w w1) := HB.out.drew.trans (hb1.mono HB.out.size))
      all_goals clear hcc hff hb1
      all_goals go_wp2
      all_goals go_roundw
      all_goals first
        | exact ⟨j + 1, by omega, by go_num, by congr 1 <;> omega, HB1.out⟩
        | (simp [intOf]; omega)
    · have e : j = n := by omega
      subst e
      go_wp2
      go_ret
      exact ⟨by congr 2, hbel⟩
end Go.Proofs.Ytpabgbjfkaiacaa.Harn
