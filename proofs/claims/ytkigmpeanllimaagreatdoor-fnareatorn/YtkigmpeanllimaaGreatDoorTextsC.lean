/- Laws that the proof rests on, put together: What the laws' own functions that weigh a disk answer. What the laws' own functions answer that weigh, mark and look at a disk. What the laws' own functions on lists of numbers (int64) answer: copied, compared, marked. 'append([]T{}, xs...)': a copy of a list of texts, of pending writes, in a block of its own. What the model's l03Copy answers. A disk of the call's own, within a range of blocks; the laws' functions on it. The laws' functions on disks of the call's own, and on what the disk's functions tell. What the disk's functions tell, as plain data. Boxes of the call's own; what a right disk holds. 'append(xs, x)' for pending writes: one that has no room, one that owns its row. What the model's DiskNew and l03Ill answer. What the program's hasSector, copyTexts and copyDisk answer. What the program's copyDisk answers. What the program's disk at work answers: workOn, sector. What the program's disk at work answers: sector, flush. What a new source is, and what it draws at an edge. A source, and what was there, where only some blocks have turned. 'append(b, s...)' of a text to bytes of the call's own, and the text of these. A text that is spoiled at a drawn place. What the program's GetNum answers, by contracts. The code that an error of the package tells. -/
import Derived.Test.YtkigmpeanllimaaGreatDoorSpecDiskRight
import Derived.ArgAppend
import Derived.Deep.Upon
import Derived.Deep.AppendLies
import Derived.Deep.RegionHeld3
import Derived.Test.YtkigmpeanllimaaGreatDoorTextsA
import Derived.Test.YtkigmpeanllimaaGreatDoorTextsB
import Derived.Deep.DrawnRows
import Derived.Test.YtkigmpeanllimaaGreatDoorDraws
import Derived.Lib.AppendStr
import Derived.WalkKit
import Derived.BigQuiet
import Derived.Test.YtkigmpeanllimaaGreatDoorReadNum
import Derived.Test.YtkigmpeanllimaaGreatDoorAsFault
import Derived.Test.YtkigmpeanllimaaGreatDoorIsSent
import Derived.Deep.RegionWith
/- What the laws' own functions that weigh a disk answer. -/
namespace Go.Proofs.YtkigmpeanllimaaGreatDoor.Harn
open Go.RowKit Go.Proofs.YtkigmpeanllimaaGreatDoor.Mem Go.Proofs.YtkigmpeanllimaaGreatDoor.Mark

/-- What a list of pending writes weighs. -/
def wtP (l : List (Int × ByteArray)) : Nat := wt (l.map (·.2))
theorem wtP_take (l : List (Int × ByteArray)) (k : Nat) (h : k < l.length) : wtP (l.take (k + 1)) = wtP (l.take k) + l[k].2.size := by
  unfold wtP
  rw [List.take_succ_eq_append_getElem h, List.map_append, wt_append]
  simp [wt]
theorem wtP_le (l : List (Int × ByteArray)) (k : Nat) : wtP (l.take k) ≤ wtP l := by
  unfold wtP
  rw [List.map_take]
  exact wt_le _ _

end Go.Proofs.YtkigmpeanllimaaGreatDoor.Harn

/- What the laws' own functions answer that weigh, mark and look at a disk. -/
namespace Go.Proofs.YtkigmpeanllimaaGreatDoor.Harn
open Go.RowKit Go.Proofs.YtkigmpeanllimaaGreatDoor.Mem Go.Proofs.YtkigmpeanllimaaGreatDoor.Mark

/-- What a disk weighs. -/
def wtD (ls : List ByteArray) (lp : List (Int × ByteArray)) : Nat := ls.length + wt ls + (lp.length + wtP lp)

theorem far_cell {W W' : World} {row : Option Nat} (hg : W.grownBy W' row) (a : Addr) (hlt : a.block < W.heap.size) (hne : some a.block ≠ row) : W'.cell? a = W.cell? a := by
  unfold World.cell?
  rw [hg.block a.block hlt hne]
theorem far_frozen {W W' : World} {row : Option Nat} (hg : W.grownBy W' row) (a : Addr) (hlt : a.block < W.heap.size) (hne : some a.block ≠ row) : W'.frozen? a = W.frozen? a := by
  unfold World.frozen?
  rw [hg.block a.block hlt hne]

/-- What a function left that wrote into one block alone. -/
theorem StrsAt.grown {W W' : World} {b g o : Nat} {l : List ByteArray} (h : StrsAt W g o l) (hg : W.grownBy W' (some b)) (hn : g ≠ b) : StrsAt W' g o l := fun j hj => by
  obtain ⟨h1, h2⟩ := h j hj
  have hlt := World.block_lt_of_cell? W _ h1
  have hne : some g ≠ some b := fun e => hn (Option.some.inj e)
  exact ⟨(far_cell hg _ hlt hne).trans h1, (far_frozen hg _ hlt hne).trans h2⟩
theorem PendsAt.grown {W W' : World} {b g o : Nat} {l : List (Int × ByteArray)} (h : PendsAt W g o l) (hg : W.grownBy W' (some b)) (hn : g ≠ b) : PendsAt W' g o l := fun j hj => by
  obtain ⟨h1, h2, h3, h4⟩ := h j hj
  have hlt := World.block_lt_of_cell? W _ h1
  have hne : some g ≠ some b := fun e => hn (Option.some.inj e)
  exact ⟨(far_cell hg ⟨g, o + j * 2, none⟩ hlt hne).trans h1, (far_cell hg ⟨g, o + j * 2 + 1, none⟩ hlt hne).trans h2, (far_frozen hg ⟨g, o + j * 2, none⟩ hlt hne).trans h3, (far_frozen hg ⟨g, o + j * 2 + 1, none⟩ hlt hne).trans h4⟩

end Go.Proofs.YtkigmpeanllimaaGreatDoor.Harn

/- What the laws' own functions on lists of numbers (int64) answer: copied, compared, marked. -/
namespace Go.Proofs.YtkigmpeanllimaaGreatDoor.Harn
open Go.RowKit Go.Proofs.YtkigmpeanllimaaGreatDoor.Mem Go.Proofs.YtkigmpeanllimaaGreatDoor.Mark

/-- The slice v reads as the numbers l. -/
def Ints (W : World) (v : Value) (l : List Int) : Prop :=
  ∃ a cap, v = .slice a l.length cap ∧ ∀ j (h : j < l.length), ∃ b o, a = some ⟨b, o, none⟩ ∧ W.cell? ⟨b, o + j, none⟩ = some (.int .i64 l[j])

theorem Ints.below {W W' : World} {v : Value} {l : List Int} (h : Ints W v l) (hb : Below W.heap.size W W') : Ints W' v l := by
  obtain ⟨a, cap, hv, hc⟩ := h
  refine ⟨a, cap, hv, fun j hj => ?_⟩
  obtain ⟨b, o, ha, hcell⟩ := hc j hj
  refine ⟨b, o, ha, ?_⟩
  rw [hb.cell (World.block_lt_of_cell? W _ hcell)]
  exact hcell

/-- The numbers l lie in block g from place o on, and may be written. -/
def IntsAt (W : World) (g o : Nat) (l : List Int) : Prop := ∀ j (h : j < l.length), W.cell? ⟨g, o + j, none⟩ = some (.int .i64 l[j]) ∧ W.frozen? ⟨g, o + j, none⟩ = false

theorem IntsAt.ints {W : World} {g o : Nat} {l : List Int} (h : IntsAt W g o l) (c : Nat) : Ints W (.slice (some ⟨g, o, none⟩) l.length c) l :=
  ⟨_, c, rfl, fun j hj => ⟨g, o, rfl, (h j hj).1⟩⟩
theorem IntsAt.below {W W' : World} {g o : Nat} {l : List Int} (h : IntsAt W g o l) (hb : Below W.heap.size W W') : IntsAt W' g o l := fun j hj => by
  have hl := World.block_lt_of_cell? W _ (h j hj).1
  rw [hb.cell hl, hb.frozen hl]
  exact h j hj
theorem IntsAt.grown {W W' : World} {b g o : Nat} {l : List Int} (h : IntsAt W g o l) (hg : W.grownBy W' (some b)) (hn : g ≠ b) : IntsAt W' g o l := fun j hj => by
  obtain ⟨h1, h2⟩ := h j hj
  have hlt := World.block_lt_of_cell? W _ h1
  have hne : some g ≠ some b := fun e => hn (Option.some.inj e)
  exact ⟨(far_cell hg _ hlt hne).trans h1, (far_frozen hg _ hlt hne).trans h2⟩
theorem IntsAt.set {W : World} {g o i : Nat} {l : List Int} (h : IntsAt W g o l) (hi : i < l.length) (t : Int) : IntsAt (W.setCell ⟨g, o + i, none⟩ (.int .i64 t)) g o (l.set i t) := fun j hj => by
  have hj2 : j < l.length := by simpa using hj
  refine ⟨?_, ?_⟩
  · by_cases e : i = j
    · subst e
      rw [List.getElem_set_self]
      exact World.cell?_setCell_same _ _ _ (h i hi).1
    · rw [List.getElem_set_ne e]
      rw [World.cell?_setCell_other W _ _ _ (by intro h2; injection h2 with _ h3 _; omega)]
      exact (h j hj2).1
  · have := (h j hj2).2
    simpa using this
theorem row_ints {W : World} {g : Nat} {l : List Int} {T : TypeId} (h : HasRow W g (l.map (Value.int .i64)) T) : IntsAt W g 0 l := fun j hj => by
  refine ⟨?_, by rw [Mem.frozen_of_row h]⟩
  rw [Mem.cell_of_row h]
  simp [hj]

theorem infoI64 : (Tryz.prog.info? 2).map (fun i => (i.zero, i.size, i.bytes)) = some (some (.int .i64 0), 1, 8) := by kernel_rfl
theorem underI64s : Tryz.prog.underlying 37 = some (.slice 2) := by kernel_rfl

theorem make_ints (n : Nat) (hn : n ≤ 2000000) (w : World) :
    ∃ W1, (Instr.makeSlice 37 (.int .i64 (n : Int)) (.int .i64 (n : Int))).run Tryz.prog w = .ok (.slice (some ⟨w.heap.size, 0, none⟩) n n) W1 ∧ HasRow W1 w.heap.size (List.replicate n (.int .i64 0)) 2 ∧ Below w.heap.size w W1 ∧ W1.heap.size = w.heap.size + 1 := by
  refine ⟨_, run_make_row' (P := Tryz.prog) 37 2 (.int .i64 0) 8 underI64s infoI64 rfl .i64 .i64 n (by omega) (by omega) w, ?_, (Below.refl _ _).alloc (Nat.le_refl _) _, by simp⟩
  unfold HasRow
  rw [← toList_madeCells_one]
  show (w.heap.push _)[w.heap.size]? = _
  simp

/-- A list of numbers of which the first k are laid. -/
def icopy (l : List Int) (k : Nat) : List Value := (l.take k).map (Value.int .i64) ++ List.replicate (l.length - k) (.int .i64 0)
theorem icopy_start (l : List Int) : icopy l 0 = List.replicate l.length (.int .i64 0) := by simp [icopy]
theorem icopy_end (l : List Int) : icopy l l.length = l.map (Value.int .i64) := by simp [icopy]
theorem icopy_cell (l : List Int) (k : Nat) (hk : k < l.length) : (icopy l k)[k]? = some (.int .i64 0) := by
  have hl : ((l.take k).map (Value.int .i64)).length = k := by simp; omega
  unfold icopy
  rw [List.getElem?_append_right (by omega), hl, Nat.sub_self, List.getElem?_replicate, if_pos (by omega)]
theorem icopy_set (l : List Int) (k : Nat) (hk : k < l.length) : (icopy l k).set k (.int .i64 l[k]) = icopy l (k + 1) := by
  have hl : ((l.take k).map (Value.int .i64)).length = k := by simp; omega
  unfold icopy
  rw [List.set_append_right _ _ (by omega), hl, Nat.sub_self, show l.length - k = (l.length - (k + 1)) + 1 by omega, List.replicate_succ, List.set_cons_zero, List.take_succ_eq_append_getElem hk]
  simp only [List.map_append, List.map_cons, List.map_nil, List.append_assoc, List.singleton_append]

/-- The marks of a list of n numbers, from k on. -/
def marksI (k n : Nat) : List Int := (List.range n).map fun (i : Nat) => ((k + i : Nat) : Int)
theorem length_marksI (k n : Nat) : (marksI k n).length = n := by simp [marksI]
def markITo (l : List Int) (k i : Nat) : List Int := marksI k i ++ l.drop i
theorem length_markITo (l : List Int) (k i : Nat) (h : i ≤ l.length) : (markITo l k i).length = l.length := by simp [markITo, length_marksI]; omega
theorem markITo_start (l : List Int) (k : Nat) : markITo l k 0 = l := by simp [markITo, marksI]
theorem markITo_end (l : List Int) (k : Nat) : markITo l k l.length = marksI k l.length := by simp [markITo]
theorem markITo_set (l : List Int) (k i : Nat) (h : i < l.length) : (markITo l k i).set i ((k + i : Nat) : Int) = markITo l k (i + 1) := by
  have hl := length_marksI k i
  unfold markITo
  rw [List.set_append_right _ _ (by omega), hl, Nat.sub_self, List.drop_eq_getElem_cons h, List.set_cons_zero]
  simp [marksI, List.range_succ]

end Go.Proofs.YtkigmpeanllimaaGreatDoor.Harn

/- 'append([]T{}, xs...)': a copy of a list of texts, of pending writes, in a block of its own. -/
namespace Go.Proofs.YtkigmpeanllimaaGreatDoor.Harn
open Go.RowKit Go.Proofs.YtkigmpeanllimaaGreatDoor.Mem Go.Proofs.YtkigmpeanllimaaGreatDoor.Mark

theorem bel_grown {W W1 : World} (h : W.grownBy W1 none) : Below W.heap.size W W1 := ⟨h.os, h.tape, h.output, h.size, fun k hk => h.block k hk (by simp)⟩

/-- A run of 'append' of at least one element behind an empty slice without room. -/
theorem app_new {P : Program} (t ty e : TypeId) (z : Value) (size bytes : Nat) (ht : P.underlying t = some (.slice e)) (hi : (P.info? e).map (fun i => (i.zero, i.size, i.bytes)) = some (some z, size, bytes)) (hzs : z.cells.size = size) (hsz : 0 < size) (b0 : Addr)
    (a : Addr) (m c : Nat) (news : List Value) (w : World) (hl : news.length = m * size) (hnews : ∀ j u, news[j]? = some u → w.cell? (a.add j) = some u) (hm : 0 < m) (h63 : m ≤ maxLen) (hbytes : m * bytes ≤ 140737488355328) :
    ∃ g cap W1, (Builtin.append_ #[t, t] ty #[.slice (some b0) 0 0, .slice (some a) m c]).run P w = .ok (.slice (some ⟨g, 0, none⟩) m cap) W1 ∧ w.heap.size ≤ g ∧ g < W1.heap.size ∧ Below w.heap.size w W1 ∧ (∀ j u, news[j]? = some u → W1.cell? ⟨g, j, none⟩ = some u) ∧ (∀ j, W1.frozen? ⟨g, j, none⟩ = false) ∧ W1.ownsRow w.heap.size e size (.slice (some ⟨g, 0, none⟩) m cap) m news := by
  obtain ⟨i, hi0, hz0, hz1, hz2⟩ := info_parts hi
  obtain ⟨v', W1, hr, hown, hgr⟩ := run_append_arg_grows (P := P) w t ty e i z size bytes ht hi0 hz0 hz1 hz2 hzs hsz b0 0 0 [] (by simp) (by simp) a m c news hl hnews (by omega) (by omega) (by simpa using hbytes)
  rw [Nat.zero_add, List.nil_append] at hown
  have hown0 := hown
  rcases hown.2 with ⟨_, h0⟩ | ⟨g, cap, cur, rfl, hb, hg, h1, h2, h3, h4⟩
  · omega
  · refine ⟨g, cap, W1, hr, hb, ?_, bel_grown hgr, fun j u hu => ?_, fun j => ?_, hown0⟩
    · rcases Nat.lt_or_ge g W1.heap.size with hlt | hge
      · exact hlt
      · rw [Array.getElem?_eq_none hge] at hg; cases hg
    · rw [cell_of_row W1 g j cur e (0, 0) hg]
      have hj : j < news.length := by
        rcases Nat.lt_or_ge j news.length with h | h
        · exact h
        · rw [List.getElem?_eq_none h] at hu; cases hu
      rw [← h4, List.getElem?_take_of_lt (by omega)] at hu
      simpa using hu
    · simp [World.frozen?, hg]

theorem app_none {P : Program} (t ty e : TypeId) (z : Value) (size bytes : Nat) (ht : P.underlying t = some (.slice e)) (hi : (P.info? e).map (fun i => (i.zero, i.size, i.bytes)) = some (some z, size, bytes)) (b0 : Addr) (a : Option Addr) (c : Nat) (w : World) :
    (Builtin.append_ #[t, t] ty #[.slice (some b0) 0 0, .slice a 0 c]).run P w = .ok (.slice (some b0) 0 0) w := by
  obtain ⟨i, hi0, hz0, hz1, hz2⟩ := info_parts hi
  cases a <;> simp [Builtin.append_, run_underlying ht, sizeOf, typeInfo, hi0, Builtin.lenOf, Builtin.firstCells, storeCells, loadCells, loadCellsFrom]

theorem app_strs (ty : TypeId) (g0 : Nat) (v : Value) (ls : List ByteArray) (W : World) (h : Strs W v ls) (hn : ls.length ≤ 1100000) (hg0 : g0 < W.heap.size) :
    ∃ g cap W1, (Builtin.append_ #[23, 23] ty #[.slice (some ⟨g0, 0, none⟩) 0 0, v]).run Tryz.prog W = .ok (.slice (some ⟨g, 0, none⟩) ls.length cap) W1 ∧ StrsAt W1 g 0 ls ∧ (g = g0 ∨ W.heap.size ≤ g) ∧ g < W1.heap.size ∧ Below W.heap.size W W1 := by
  obtain ⟨a, c, rfl, hc⟩ := h
  by_cases h0 : ls.length = 0
  · have e : ls = [] := List.length_eq_zero_iff.1 h0
    subst e
    exact ⟨g0, 0, W, app_none _ ty _ _ _ _ underStrs infoStr _ a c W, fun j hj => absurd hj (by simp), .inl rfl, hg0, Below.refl _ _⟩
  · obtain ⟨b, o, rfl, _⟩ := hc 0 (by omega)
    obtain ⟨g, cap, W1, hr, h1, h2, h3, h4, h5, _⟩ := app_new (P := Tryz.prog) 23 ty 9 (.string ByteArray.empty) 1 16 underStrs infoStr rfl (by omega) ⟨g0, 0, none⟩ ⟨b, o, none⟩ ls.length c (ls.map Value.string) W (by simp) (fun j u hu => by
      rw [List.getElem?_map] at hu
      cases e : ls[j]? with
      | none => rw [e] at hu; cases hu
      | some t =>
        rw [e] at hu
        obtain ⟨hj, ht⟩ := List.getElem?_eq_some_iff.1 e
        obtain ⟨b', o', hbo, hcell⟩ := hc j hj
        injection hbo with hbo
        injection hbo with e1 e2 _
        subst e1 e2
        have hadd : (⟨b, o, none⟩ : Addr).add j = ⟨b, o + j, none⟩ := by unfold Addr.add; split <;> simp_all
        rw [hadd, hcell, ht]
        simpa using hu) (by omega) (by unfold maxLen; omega) (by omega)
    exact ⟨g, cap, W1, hr, fun j hj => ⟨by rw [Nat.zero_add]; exact h4 j _ (by simp [hj]), by rw [Nat.zero_add]; exact h5 j⟩, .inr h1, h2, h3⟩

/-- The cells of a list of pending writes. -/
def pcells : List (Int × ByteArray) → List Value
  | [] => []
  | y :: l => .int .i64 y.1 :: .string y.2 :: pcells l
theorem length_pcells (l : List (Int × ByteArray)) : (pcells l).length = l.length * 2 := by
  induction l with
  | nil => rfl
  | cons y l ih => simp [pcells, ih]; omega
theorem pcells_at (l : List (Int × ByteArray)) (j : Nat) (h : j < l.length) : (pcells l)[j * 2]? = some (.int .i64 l[j].1) ∧ (pcells l)[j * 2 + 1]? = some (.string l[j].2) := by
  induction l generalizing j with
  | nil => simp at h
  | cons y l ih =>
    cases j with
    | zero => simp [pcells]
    | succ j =>
      have := ih j (by simpa using h)
      rw [show (j + 1) * 2 = j * 2 + 1 + 1 by omega]
      simpa [pcells] using this

theorem app_pends (ty : TypeId) (g0 : Nat) (v : Value) (lp : List (Int × ByteArray)) (W : World) (h : Pends W v lp) (hn : lp.length ≤ 1100000) (hg0 : g0 < W.heap.size) :
    ∃ g cap W1, (Builtin.append_ #[24, 24] ty #[.slice (some ⟨g0, 0, none⟩) 0 0, v]).run Tryz.prog W = .ok (.slice (some ⟨g, 0, none⟩) lp.length cap) W1 ∧ PendsAt W1 g 0 lp ∧ (g = g0 ∨ W.heap.size ≤ g) ∧ g < W1.heap.size ∧ Below W.heap.size W W1 ∧ (cap = lp.length ∨ W1.ownsRow W.heap.size 78 2 (.slice (some ⟨g, 0, none⟩) lp.length cap) lp.length (pcells lp)) := by
  obtain ⟨a, c, rfl, hc⟩ := h
  by_cases h0 : lp.length = 0
  · have e : lp = [] := List.length_eq_zero_iff.1 h0
    subst e
    exact ⟨g0, 0, W, app_none _ ty _ _ _ _ underPends infoPend _ a c W, fun j hj => absurd hj (by simp), .inl rfl, hg0, Below.refl _ _, .inl rfl⟩
  · obtain ⟨b, o, rfl, _⟩ := hc 0 (by omega)
    obtain ⟨g, cap, W1, hr, h1, h2, h3, h4, h5, hown⟩ := app_new (P := Tryz.prog) 24 ty 78 (.agg #[.int .i64 0, .string ByteArray.empty]) 2 24 underPends infoPend rfl (by omega) ⟨g0, 0, none⟩ ⟨b, o, none⟩ lp.length c (pcells lp) W (length_pcells lp) (fun j u hu => by
      have hl := length_pcells lp
      have hj : j < (pcells lp).length := by
        rcases Nat.lt_or_ge j (pcells lp).length with h | h
        · exact h
        · rw [List.getElem?_eq_none h] at hu; cases hu
      obtain ⟨q1, q2⟩ := pcells_at lp (j / 2) (by omega)
      obtain ⟨b', o', hbo, hc1, hc2⟩ := hc (j / 2) (by omega)
      injection hbo with hbo
      injection hbo with e1 e2 _
      subst e1 e2
      have hadd : (⟨b, o, none⟩ : Addr).add j = ⟨b, o + j, none⟩ := by unfold Addr.add; split <;> simp_all
      rw [hadd]
      by_cases hp : j % 2 = 0
      · rw [show j / 2 * 2 = j by omega] at q1 hc1
        rw [hc1, ← q1, hu]
      · rw [show j / 2 * 2 + 1 = j by omega] at q2
        rw [show o + j / 2 * 2 + 1 = o + j by omega] at hc2
        rw [hc2, ← q2, hu]) (by omega) (by unfold maxLen; omega) (by omega)
    exact ⟨g, cap, W1, hr, fun j hj => by
      obtain ⟨q1, q2⟩ := pcells_at lp j hj
      rw [Nat.zero_add]
      exact ⟨h4 _ _ q1, h4 _ _ q2, h5 _, h5 _⟩, .inr h1, h2, h3, .inr hown⟩

/-- An 'append' whose run is known, at a step of a region that draws its order. -/
theorem step_app {P : Program} {w : World} {ops : Array Oper} {o : Oper} {a : Act} {K : Act → World → Prop} {Q : Exit → Act → World → Prop} {E : Prop} (hgd : o.guard = none) (s x : Operand) (t : TypeId)
    (ho : o.op = .call { callee := .builtin .append, args := #[s, x], argTypes := #[t, t] }) (v u r : Value) (w' : World) (hs : a.eval s = v) (hx : a.eval x = u)
    (hr : (Builtin.append_ #[t, t] o.type #[v, u]).run P w = .ok r w') (h : K (a.put o.dst r) w') :
    if Region.wanted o (yielded ops a.tmps) = true then Oper.wp P o a w K Q else E := by
  have hw : Region.wanted o (yielded ops a.tmps) = true := by simp [Region.wanted, hgd]
  rw [if_pos hw]
  unfold Oper.wp execOp
  simp only [ho, resolve, invoke, builtin, Sem.run_bind, Sem.run_pure, Result.andThen_ok, List.map_toArray, List.map_cons, List.map_nil, hs, hx, hr]
  exact h
end Go.Proofs.YtkigmpeanllimaaGreatDoor.Harn

/- What the model's l03Copy answers. -/
namespace Go.Proofs.YtkigmpeanllimaaGreatDoor.Disk
open Go.RowKit Go.Proofs.YtkigmpeanllimaaGreatDoor.Mem Go.Proofs.YtkigmpeanllimaaGreatDoor.Harn

theorem bA {w W : World} (h : Below w.heap.size w W) (o : Obj) : Below w.heap.size w (W.alloc o) := h.alloc h.size o
theorem bD {w W : World} (h : Below w.heap.size w W) : Below w.heap.size w W.drew := Sha.bel_drewN h 1
theorem bT {w W W1 : World} (h : Below w.heap.size w W) (hb : Below W.heap.size W W1) : Below w.heap.size w W1 := h.trans (hb.mono h.size)

theorem step_strs {w : World} {ops : Array Oper} {o : Oper} {a : Act} {K : Act → World → Prop} {Q : Exit → Act → World → Prop} {E : Prop} (hgd : o.guard = none) (s x : Operand)
    (ho : o.op = .call { callee := .builtin .append, args := #[s, x], argTypes := #[23, 23] }) (g0 : Nat) (v : Value) (ls : List ByteArray) (hs : a.eval s = .slice (some ⟨g0, 0, none⟩) 0 0) (hx : a.eval x = v)
    (h : Strs w v ls) (hn : ls.length ≤ 1100000) (hg0 : g0 < w.heap.size)
    (hK : ∀ g cap w', StrsAt w' g 0 ls → (g = g0 ∨ w.heap.size ≤ g) → g < w'.heap.size → Below w.heap.size w w' → K (a.put o.dst (.slice (some ⟨g, 0, none⟩) ls.length cap)) w') :
    if Region.wanted o (yielded ops a.tmps) = true then Oper.wp Tryz.prog o a w K Q else E := by
  obtain ⟨g, cap, w', hr, h1, h2, h3, h4⟩ := app_strs o.type g0 v ls w h hn hg0
  exact step_app hgd s x _ ho _ _ _ w' hs hx hr (hK g cap w' h1 h2 h3 h4)
theorem step_pends {w : World} {ops : Array Oper} {o : Oper} {a : Act} {K : Act → World → Prop} {Q : Exit → Act → World → Prop} {E : Prop} (hgd : o.guard = none) (s x : Operand)
    (ho : o.op = .call { callee := .builtin .append, args := #[s, x], argTypes := #[24, 24] }) (g0 : Nat) (v : Value) (lp : List (Int × ByteArray)) (hs : a.eval s = .slice (some ⟨g0, 0, none⟩) 0 0) (hx : a.eval x = v)
    (h : Pends w v lp) (hn : lp.length ≤ 1100000) (hg0 : g0 < w.heap.size)
    (hK : ∀ g cap w', PendsAt w' g 0 lp → (g = g0 ∨ w.heap.size ≤ g) → g < w'.heap.size → Below w.heap.size w w' → (cap = lp.length ∨ w'.ownsRow w.heap.size 78 2 (.slice (some ⟨g, 0, none⟩) lp.length cap) lp.length (pcells lp)) → K (a.put o.dst (.slice (some ⟨g, 0, none⟩) lp.length cap)) w') :
    if Region.wanted o (yielded ops a.tmps) = true then Oper.wp Tryz.prog o a w K Q else E := by
  obtain ⟨g, cap, w', hr, h1, h2, h3, h4, h5⟩ := app_pends o.type g0 v lp w h hn hg0
  exact step_app hgd s x _ ho _ _ _ w' hs hx hr (hK g cap w' h1 h2 h3 h4 h5)

theorem own_below {W W' : World} {base g n cap : Nat} {e : TypeId} {size : Nat} {xs : List Value} {B : Nat} (h : W.ownsRow base e size (.slice (some ⟨g, 0, none⟩) n cap) n xs) (hb : W'.heap[g]? = W.heap[g]?) (hB : B ≤ base) : W'.ownsRow B e size (.slice (some ⟨g, 0, none⟩) n cap) n xs := by
  obtain ⟨h1, h2⟩ := h
  refine ⟨h1, ?_⟩
  rcases h2 with ⟨h2, _⟩ | ⟨g', cap', cur, e1, e2, e3, e4⟩
  · cases h2
  · injection e1 with e1 _ e5
    injection e1 with e1
    injection e1 with e1 _ _
    subst e1 e5
    exact .inr ⟨g, cap, cur, rfl, by omega, hb.trans e3, e4⟩
theorem StrsAt.other {W : World} {g o : Nat} {l : List ByteArray} (h : StrsAt W g o l) {a : Addr} (ha : a.block ≠ g) (v : Value) : StrsAt (W.setCell a v) g o l := fun j hj => by
  obtain ⟨h1, h2⟩ := h j hj
  refine ⟨?_, by simpa using h2⟩
  rw [World.cell?_setCell_other _ _ _ _ (by intro e; exact ha (by rw [e]))]; exact h1

set_option maxRecDepth 100000 in
set_option maxHeartbeats 3200000 in
theorem copy_any (vs vp : Value) (ls : List ByteArray) (lp : List (Int × ByteArray)) (w : World) (hs : Strs w vs ls) (hp : Pends w vp lp) (h1 : ls.length ≤ 1100000) (h2 : lp.length ≤ 1100000) :
    Calls Tryz.prog 42 #[.agg #[vs, vp]] w fun e w' => ∃ gs gp cs cp, e = .returned (.agg #[.slice (some ⟨gs, 0, none⟩) ls.length cs, .slice (some ⟨gp, 0, none⟩) lp.length cp]) ∧ StrsAt w' gs 0 ls ∧ PendsAt w' gp 0 lp ∧ w.heap.size ≤ gs ∧ w.heap.size ≤ gp ∧ gs ≠ gp ∧ gs < w'.heap.size ∧ gp < w'.heap.size ∧ Below w.heap.size w w' ∧ (cp = lp.length ∨ w'.ownsRow w.heap.size 78 2 (.slice (some ⟨gp, 0, none⟩) lp.length cp) lp.length (pcells lp)) := by
  obtain ⟨W0, hW0⟩ : ∃ W0, W0 = (w.alloc (Obj.cells #[vs, vp] 26)).alloc (Obj.cells #[Value.slice none 0 0, Value.slice none 0 0] 26) := ⟨_, rfl⟩
  have HS : Hid (Strs w vs ls) := hs
  have HP : Hid (Pends w vp lp) := hp
  clear hs hp
  go_enter Tryz.func42, Tryz.ntmps42
  go_wp2_with fail
  rw [← hW0]
  have hz : W0.heap.size = w.heap.size + 2 := by rw [hW0]; simp
  have c0 : W0.cell? ⟨w.heap.size, 0, none⟩ = some vs := by rw [hW0]; exact Mem.cell_of_row (Sha.row_alloc (Sha.row_new w [vs, vp] 26) _) 0
  have c1 : W0.cell? ⟨w.heap.size, 1, none⟩ = some vp := by rw [hW0]; exact Mem.cell_of_row (Sha.row_alloc (Sha.row_new w [vs, vp] 26) _) 1
  have r1 : HasRow W0 (w.heap.size + 1) [Value.slice none 0 0, Value.slice none 0 0] 26 := by rw [hW0]; exact Sha.row_new_at (w.alloc _) [Value.slice none 0 0, Value.slice none 0 0] 26 _ (by simp)
  have c2 : W0.cell? ⟨w.heap.size + 1, 0, none⟩ = some (.slice none 0 0) := Mem.cell_of_row r1 0
  have c3 : W0.cell? ⟨w.heap.size + 1, 1, none⟩ = some (.slice none 0 0) := Mem.cell_of_row r1 1
  have f2 : W0.frozen? ⟨w.heap.size + 1, 0, none⟩ = false := Mem.frozen_of_row r1 0
  have f3 : W0.frozen? ⟨w.heap.size + 1, 1, none⟩ = false := Mem.frozen_of_row r1 1
  clear r1
  have HB0 : Hid (Below w.heap.size w W0) := by rw [hW0]; exact ((Below.refl _ _).alloc (Nat.le_refl _) _).alloc (by simp) _
  clear hW0
  go_region_held3 (fun w' => w'.cell? ⟨w.heap.size, 0, none⟩ = some vs ∧ w'.cell? ⟨w.heap.size, 1, none⟩ = some vp)
    (first
      | go_keep
      | (go_split_ands; refine ⟨?_, ?_⟩ <;> (rw [hb2.cell (by simp; omega)]; simp [*]))
      | (go_split_ands; refine ⟨?_, ?_⟩ <;> (rw [hb1.cell (by simp; omega)]; simp [*])))
    (first
      | (refine step_strs (by rfl) _ _ (by rfl) _ vs ls (by rfl) (by rfl) (Strs.below HS.out (by repeat' (first | exact HB0.out | apply bD | apply bA))) h1 (by first | omega | (simp <;> omega)) ?_; intro gs cs w1 hs1 hg1 hl1 hb1; have hq1 := hb1.size; simp at hq1; have hz1 : w.heap.size + 3 ≤ w1.heap.size := (by omega); have hB1 : Below W0.heap.size W0 w1 := (by refine bT ?_ hb1; repeat' (first | exact Below.refl _ _ | apply bD | apply bA)); have cw12 : w1.cell? ⟨w.heap.size + 1, 0, none⟩ = some (.slice none 0 0) := (hB1.cell (by first | omega | (simp <;> omega))).trans c2; have fw12 : w1.frozen? ⟨w.heap.size + 1, 0, none⟩ = false := (hB1.frozen (by first | omega | (simp <;> omega))).trans f2; have cw13 : w1.cell? ⟨w.heap.size + 1, 1, none⟩ = some (.slice none 0 0) := (hB1.cell (by first | omega | (simp <;> omega))).trans c3; have fw13 : w1.frozen? ⟨w.heap.size + 1, 1, none⟩ = false := (hB1.frozen (by first | omega | (simp <;> omega))).trans f3)
      | (refine step_pends (by rfl) _ _ (by rfl) _ vp lp (by rfl) (by rfl) (Pends.below HP.out (by repeat' (first | exact HB0.out | apply bD | apply bA | refine bT ?_ hb1))) h2 (by first | omega | (simp <;> omega)) ?_; intro gp cp w2 hs2 hg2 hl2 hb2 hw2; have HW2 : Hid _ := hw2; clear hw2; have hz2 : w.heap.size + 3 ≤ w2.heap.size := (by have hq := hb2.size; first | omega | (simp at hq; omega)); have hB2 : Below W0.heap.size W0 w2 := (by refine bT ?_ hb2; repeat' (first | exact hB1 | apply bD | apply bA)); have hB12 : Below w1.heap.size w1 w2 := (by refine bT ?_ hb2; repeat' (first | exact Below.refl _ _ | apply bD | apply bA)); have cw22 : w2.cell? ⟨w.heap.size + 1, 0, none⟩ = some (.slice none 0 0) := (hB2.cell (by first | omega | (simp <;> omega))).trans c2; have fw22 : w2.frozen? ⟨w.heap.size + 1, 0, none⟩ = false := (hB2.frozen (by first | omega | (simp <;> omega))).trans f2; have cw23 : w2.cell? ⟨w.heap.size + 1, 1, none⟩ = some (.slice none 0 0) := (hB2.cell (by first | omega | (simp <;> omega))).trans c3; have fw23 : w2.frozen? ⟨w.heap.size + 1, 1, none⟩ = false := (hB2.frozen (by first | omega | (simp <;> omega))).trans f3))
  all_goals go_wp2
  all_goals have hq2 := hB12.size
  all_goals try simp at hg1
  all_goals try simp at hg2
  all_goals have hgg : w.heap.size ≤ gs ∧ w.heap.size ≤ gp ∧ gs ≠ gp ∧ gs ≠ w.heap.size + 1 ∧ gp ≠ w.heap.size + 1 := by omega
  all_goals obtain ⟨k1, k2, k3, k4, k5⟩ := hgg
  all_goals refine bodyPost_ret (v := .agg #[.slice (some ⟨gs, 0, none⟩) ls.length cs, .slice (some ⟨gp, 0, none⟩) lp.length cp]) (by simp [results, Tryz.results42, go_sem, cw22, cw23]) rfl ⟨gs, gp, cs, cp, rfl, StrsAt.other (StrsAt.other (StrsAt.below hs1 hB12) (Ne.symm k4) _) (Ne.symm k4) _, PendsAt.other (PendsAt.other hs2 (Ne.symm k5) _) (Ne.symm k5) _, k1, k2, k3, by first | omega | (simp <;> omega), by first | omega | (simp <;> omega), ?_, ?_⟩
  all_goals first
    | exact (HW2.out.imp id fun h => own_below h ((Below.heap_setCell _ _ _ _ (by simpa using k5)).trans (Below.heap_setCell _ _ _ _ (by simpa using k5))) (by have := hb2.size; have := hB1.size; first | omega | (simp <;> omega)))
    | skip
  all_goals exact ((bT HB0.out hB2).setCell (p := ⟨w.heap.size + 1, 0, none⟩) (by simp) _).setCell (p := ⟨w.heap.size + 1, 1, none⟩) (by simp) _
end Go.Proofs.YtkigmpeanllimaaGreatDoor.Disk

/- A disk of the call's own, within a range of blocks; the laws' functions on it. -/
namespace Go.Proofs.YtkigmpeanllimaaGreatDoor.Harn
open Go.RowKit Go.Proofs.YtkigmpeanllimaaGreatDoor.Mem Go.Proofs.YtkigmpeanllimaaGreatDoor.Mark

/-- Of the old blocks those of p alone have turned. -/
structure Only (p : Nat → Prop) (w w' : World) : Prop where
  os : w'.os = w.os
  tape : w'.tape = w.tape
  output : w'.output = w.output
  size : w.heap.size ≤ w'.heap.size
  block : ∀ k, k < w.heap.size → ¬ p k → w'.heap[k]? = w.heap[k]?

theorem Only.refl (p : Nat → Prop) (w : World) : Only p w w := ⟨rfl, rfl, rfl, Nat.le_refl _, fun _ _ _ => rfl⟩
theorem Only.trans {p : Nat → Prop} {a b c : World} (h : Only p a b) (k : Only p b c) : Only p a c :=
  ⟨k.os.trans h.os, k.tape.trans h.tape, k.output.trans h.output, Nat.le_trans h.size k.size, fun i hi hp => (k.block i (Nat.lt_of_lt_of_le hi h.size) hp).trans (h.block i hi hp)⟩
theorem Only.mono {p q : Nat → Prop} {a b : World} (h : Only p a b) (hpq : ∀ k, p k → q k) : Only q a b :=
  ⟨h.os, h.tape, h.output, h.size, fun i hi hq => h.block i hi (fun hp => hq (hpq i hp))⟩
theorem Only.of_below {w w' : World} (p : Nat → Prop) (h : Below w.heap.size w w') : Only p w w' := ⟨h.os, h.tape, h.output, h.size, fun k hk _ => h.block k hk⟩
theorem Only.of_grown {p : Nat → Prop} {w w' : World} {g : Nat} (h : w.grownBy w' (some g)) (hg : p g) : Only p w w' :=
  ⟨h.os, h.tape, h.output, h.size, fun k hk hn => h.block k hk (fun e => hn (by injection e with e; rw [e]; exact hg))⟩
theorem Only.below {p : Nat → Prop} {w0 w w' : World} {B : Nat} (h : Only p w w') (hb : Below B w0 w) (hB : B ≤ w.heap.size) (hp : ∀ k, k < B → ¬ p k) : Below B w0 w' :=
  ⟨h.os.trans hb.os, h.tape.trans hb.tape, h.output.trans hb.output, Nat.le_trans hb.size h.size, fun k hk => (h.block k (Nat.lt_of_lt_of_le hk hB) (hp k hk)).trans (hb.block k hk)⟩
theorem Only.cell {p : Nat → Prop} {w w' : World} (h : Only p w w') {a : Addr} (ha : a.block < w.heap.size) (hp : ¬ p a.block) : w'.cell? a = w.cell? a := by
  unfold World.cell?
  rw [h.block a.block ha hp]
theorem Only.frozen {p : Nat → Prop} {w w' : World} (h : Only p w w') {a : Addr} (ha : a.block < w.heap.size) (hp : ¬ p a.block) : w'.frozen? a = w.frozen? a := by
  unfold World.frozen?
  rw [h.block a.block ha hp]
theorem Only.row {p : Nat → Prop} {w w' : World} (h : Only p w w') {g : Nat} {cs : List Value} {e : TypeId} (hr : HasRow w g cs e) (hp : ¬ p g) : HasRow w' g cs e := by
  have hlt : g < w.heap.size := by
    rcases Nat.lt_or_ge g w.heap.size with hlt | hge
    · exact hlt
    · unfold HasRow at hr; rw [Array.getElem?_eq_none hge] at hr; cases hr
  unfold HasRow
  rw [h.block g hlt hp]
  exact hr
theorem StrsAt.only {p : Nat → Prop} {W W' : World} {g o : Nat} {l : List ByteArray} (h : StrsAt W g o l) (hg : Only p W W') (hn : l.length = 0 ∨ ¬ p g) : StrsAt W' g o l := fun j hj => by
  obtain ⟨h1, h2⟩ := h j hj
  have hlt := World.block_lt_of_cell? W _ h1
  have hp : ¬ p g := by rcases hn with h0 | h0; omega; exact h0
  exact ⟨(hg.cell hlt hp).trans h1, (hg.frozen hlt hp).trans h2⟩
theorem PendsAt.only {p : Nat → Prop} {W W' : World} {g o : Nat} {l : List (Int × ByteArray)} (h : PendsAt W g o l) (hg : Only p W W') (hn : l.length = 0 ∨ ¬ p g) : PendsAt W' g o l := fun j hj => by
  obtain ⟨h1, h2, h3, h4⟩ := h j hj
  have hlt := World.block_lt_of_cell? W _ h1
  have hp : ¬ p g := by rcases hn with h0 | h0; omega; exact h0
  exact ⟨(hg.cell (a := ⟨g, o + j * 2, none⟩) hlt hp).trans h1, (hg.cell (a := ⟨g, o + j * 2 + 1, none⟩) hlt hp).trans h2, (hg.frozen (a := ⟨g, o + j * 2, none⟩) hlt hp).trans h3, (hg.frozen (a := ⟨g, o + j * 2 + 1, none⟩) hlt hp).trans h4⟩
theorem IntsAt.only {p : Nat → Prop} {W W' : World} {g o : Nat} {l : List Int} (h : IntsAt W g o l) (hg : Only p W W') (hn : l.length = 0 ∨ ¬ p g) : IntsAt W' g o l := fun j hj => by
  obtain ⟨h1, h2⟩ := h j hj
  have hlt := World.block_lt_of_cell? W _ h1
  have hp : ¬ p g := by rcases hn with h0 | h0; omega; exact h0
  exact ⟨(hg.cell hlt hp).trans h1, (hg.frozen hlt hp).trans h2⟩

/-- The disk v has the sectors ls and the pending writes lp, each in a row of its own among the blocks from lo to hi. -/
def Own (W : World) (lo hi : Nat) (vs vp : Value) (ls : List ByteArray) (lp : List (Int × ByteArray)) : Prop :=
  ∃ va cs vb cp gs os gp op, vs = .slice va ls.length cs ∧ vp = .slice vb lp.length cp ∧ (ls.length = 0 ∨ (va = some ⟨gs, os, none⟩ ∧ lo ≤ gs ∧ gs < hi)) ∧ StrsAt W gs os ls ∧
    (lp.length = 0 ∨ (vb = some ⟨gp, op, none⟩ ∧ lo ≤ gp ∧ gp < hi)) ∧ PendsAt W gp op lp ∧ (gs ≠ gp ∨ ls.length = 0 ∨ lp.length = 0)

theorem Own.strs {W : World} {lo hi : Nat} {vs vp : Value} {ls : List ByteArray} {lp : List (Int × ByteArray)} (h : Own W lo hi vs vp ls lp) : Strs W vs ls := by
  obtain ⟨va, cs, vb, cp, gs, os, gp, op, rfl, rfl, h1, h2, h3, h4, h5⟩ := h
  refine ⟨va, cs, rfl, fun j hj => ?_⟩
  rcases h1 with h1 | ⟨h1, _, _⟩
  · omega
  · exact ⟨gs, os, h1, (h2 j hj).1⟩
theorem Own.pends {W : World} {lo hi : Nat} {vs vp : Value} {ls : List ByteArray} {lp : List (Int × ByteArray)} (h : Own W lo hi vs vp ls lp) : Pends W vp lp := by
  obtain ⟨va, cs, vb, cp, gs, os, gp, op, rfl, rfl, h1, h2, h3, h4, h5⟩ := h
  refine ⟨vb, cp, rfl, fun j hj => ?_⟩
  rcases h3 with h3 | ⟨h3, _, _⟩
  · omega
  · exact ⟨gp, op, h3, (h4 j hj).1, (h4 j hj).2.1⟩
theorem Own.only {p : Nat → Prop} {W W' : World} {lo hi : Nat} {vs vp : Value} {ls : List ByteArray} {lp : List (Int × ByteArray)} (h : Own W lo hi vs vp ls lp) (hg : Only p W W') (hn : ∀ k, lo ≤ k → k < hi → ¬ p k) : Own W' lo hi vs vp ls lp := by
  obtain ⟨va, cs, vb, cp, gs, os, gp, op, rfl, rfl, h1, h2, h3, h4, h5⟩ := h
  exact ⟨va, cs, vb, cp, gs, os, gp, op, rfl, rfl, h1, h2.only hg (h1.imp id fun h => hn gs h.2.1 h.2.2), h3, h4.only hg (h3.imp id fun h => hn gp h.2.1 h.2.2), h5⟩
theorem Own.below {W W' : World} {lo hi : Nat} {vs vp : Value} {ls : List ByteArray} {lp : List (Int × ByteArray)} (h : Own W lo hi vs vp ls lp) (hb : Below W.heap.size W W') : Own W' lo hi vs vp ls lp :=
  h.only (Only.of_below (fun _ => False) hb) (fun _ _ _ h => h)
theorem Own.wide {W : World} {lo hi lo' hi' : Nat} {vs vp : Value} {ls : List ByteArray} {lp : List (Int × ByteArray)} (h : Own W lo hi vs vp ls lp) (h1 : lo' ≤ lo) (h2 : hi ≤ hi') : Own W lo' hi' vs vp ls lp := by
  obtain ⟨va, cs, vb, cp, gs, os, gp, op, e1, e2, a1, a2, a3, a4, a5⟩ := h
  exact ⟨va, cs, vb, cp, gs, os, gp, op, e1, e2, a1.imp id (fun h => ⟨h.1, by omega, by omega⟩), a2, a3.imp id (fun h => ⟨h.1, by omega, by omega⟩), a4, a5⟩
theorem Own.shape {W : World} {lo hi : Nat} {vs vp : Value} {ls : List ByteArray} {lp : List (Int × ByteArray)} (h : Own W lo hi vs vp ls lp) : ∃ va cs vb cp, vs = .slice va ls.length cs ∧ vp = .slice vb lp.length cp := by
  obtain ⟨va, cs, vb, cp, gs, os, gp, op, e1, e2, _⟩ := h
  exact ⟨va, cs, vb, cp, e1, e2⟩
theorem Own.setCell {W : World} {lo hi : Nat} {vs vp : Value} {ls : List ByteArray} {lp : List (Int × ByteArray)} (h : Own W lo hi vs vp ls lp) {a : Addr} (ha : a.block < lo ∨ hi ≤ a.block) (v : Value) : Own (W.setCell a v) lo hi vs vp ls lp :=
  h.only (p := fun b => b = a.block) ⟨rfl, rfl, rfl, by simp, fun k _ hk => Below.heap_setCell _ _ _ _ hk⟩ (fun k h1 h2 e => by subst e; omega)
theorem own_zero (W : World) (lo hi : Nat) : Own W lo hi (.slice none 0 0) (.slice none 0 0) [] [] :=
  ⟨none, 0, none, 0, 0, 0, 0, 0, rfl, rfl, .inl rfl, fun j hj => absurd hj (by simp), .inl rfl, fun j hj => absurd hj (by simp), .inr (.inl rfl)⟩
theorem own_mk {W : World} {lo hi gs gp cs cp : Nat} {ls : List ByteArray} {lp : List (Int × ByteArray)} (h1 : StrsAt W gs 0 ls) (h2 : PendsAt W gp 0 lp) (a1 : lo ≤ gs) (a2 : gs < hi) (b1 : lo ≤ gp) (b2 : gp < hi) (hne : gs ≠ gp) :
    Own W lo hi (.slice (some ⟨gs, 0, none⟩) ls.length cs) (.slice (some ⟨gp, 0, none⟩) lp.length cp) ls lp :=
  ⟨_, cs, _, cp, gs, 0, gp, 0, rfl, rfl, .inr ⟨rfl, a1, a2⟩, h1, .inr ⟨rfl, b1, b2⟩, h2, .inl hne⟩
theorem own_mk0 {W : World} {lo hi gs cs : Nat} {ls : List ByteArray} (h1 : StrsAt W gs 0 ls) (a1 : lo ≤ gs) (a2 : gs < hi) :
    Own W lo hi (.slice (some ⟨gs, 0, none⟩) ls.length cs) (.slice none 0 0) ls [] :=
  ⟨_, cs, none, 0, gs, 0, 0, 0, rfl, rfl, .inr ⟨rfl, a1, a2⟩, h1, .inl rfl, fun j hj => absurd hj (by simp), .inr (.inr rfl)⟩

/-! ### marks -/
end Go.Proofs.YtkigmpeanllimaaGreatDoor.Harn

/- The laws' functions on disks of the call's own, and on what the disk's functions tell. -/
namespace Go.Proofs.YtkigmpeanllimaaGreatDoor.Harn
open Go.RowKit Go.Proofs.YtkigmpeanllimaaGreatDoor.Mem Go.Proofs.YtkigmpeanllimaaGreatDoor.Mark

/-! ### what the disk's functions tell -/
/-- What is told, as a value. -/
abbrev outV (vs vp : Value) (t : ByteArray) (c : Int) : Value := .agg #[vs, vp, .string t, .int .i64 c]

end Go.Proofs.YtkigmpeanllimaaGreatDoor.Harn

/- What the disk's functions tell, as plain data. -/
namespace Go.Proofs.YtkigmpeanllimaaGreatDoor.Disk
open Go.RowKit Go.Proofs.YtkigmpeanllimaaGreatDoor.Mem Go.Proofs.YtkigmpeanllimaaGreatDoor.Harn Go.Proofs.YtkigmpeanllimaaGreatDoor.DiskP

/-- What is told: the disk's sectors and pending writes, the data, the code. -/
structure Out where
  ls : List ByteArray
  lp : List (Int × ByteArray)
  t : ByteArray
  c : Int
def ill (c : Int) : Out := ⟨[], [], ByteArray.empty, c⟩

/-- A call told o: in memory of its own; nothing old has turned. -/
def Told (w : World) (o : Out) (e : Ending) (w' : World) : Prop := ∃ us up, e = .returned (outV us up o.t o.c) ∧ Own w' w.heap.size w'.heap.size us up o.ls o.lp ∧ Below w.heap.size w w'
/-- A call told a disk. -/
def ToldD (w : World) (ls : List ByteArray) (lp : List (Int × ByteArray)) (e : Ending) (w' : World) : Prop := ∃ us up, e = .returned (.agg #[us, up]) ∧ Own w' w.heap.size w'.heap.size us up ls lp ∧ Below w.heap.size w w'

def newD (n : Int) : List ByteArray := if 1 ≤ n ∧ n ≤ 64 then List.replicate n.toNat ByteArray.empty else []
theorem newD_yes {n : Int} (h1 : 1 ≤ n) (h2 : n ≤ 64) : newD n = List.replicate n.toNat ByteArray.empty := by unfold newD; rw [if_pos ⟨h1, h2⟩]
theorem newD_no {n : Int} (h : n < 1 ∨ 64 < n) : newD n = [] := by unfold newD; rw [if_neg (by omega)]

def readO (ls : List ByteArray) (lp : List (Int × ByteArray)) (x : Int) : Out := if rightB ls lp = true then (if 0 ≤ x ∧ x < ls.length then ⟨ls, lp, readD ls lp x.toNat, 0⟩ else ill 8) else ill 1
theorem readO_form {ls : List ByteArray} {lp : List (Int × ByteArray)} {x : Int} (h : rightB ls lp = false) : readO ls lp x = ill 1 := by unfold readO; rw [h]; rfl
theorem readO_range {ls : List ByteArray} {lp : List (Int × ByteArray)} {x : Int} (h : rightB ls lp = true) (h2 : ¬ (0 ≤ x ∧ x < ls.length)) : readO ls lp x = ill 8 := by unfold readO; rw [if_pos h, if_neg h2]
theorem readO_ok {ls : List ByteArray} {lp : List (Int × ByteArray)} {k : Nat} (h : rightB ls lp = true) (h2 : k < ls.length) : readO ls lp (k : Int) = ⟨ls, lp, readD ls lp k, 0⟩ := by
  unfold readO; rw [if_pos h, if_pos (by omega)]; rfl

def writeO (ls : List ByteArray) (lp : List (Int × ByteArray)) (x : Int) (t : ByteArray) : Out :=
  if 8000 < t.size then ill 2 else if rightB ls lp = false ∨ 64 < t.size then ill 1 else if ¬ (0 ≤ x ∧ x < ls.length) then ill 8 else if lp.length = 200 then ill 9 else ⟨ls, lp ++ [(x, t)], ByteArray.empty, 0⟩
theorem writeO_size {ls : List ByteArray} {lp : List (Int × ByteArray)} {x : Int} {t : ByteArray} (h : 8000 < t.size) : writeO ls lp x t = ill 2 := by unfold writeO; rw [if_pos h]
theorem writeO_form {ls : List ByteArray} {lp : List (Int × ByteArray)} {x : Int} {t : ByteArray} (h : ¬ 8000 < t.size) (h2 : rightB ls lp = false ∨ 64 < t.size) : writeO ls lp x t = ill 1 := by unfold writeO; rw [if_neg h, if_pos h2]
theorem writeO_range {ls : List ByteArray} {lp : List (Int × ByteArray)} {x : Int} {t : ByteArray} (h : ¬ 64 < t.size) (h2 : rightB ls lp = true) (h3 : ¬ (0 ≤ x ∧ x < ls.length)) : writeO ls lp x t = ill 8 := by
  unfold writeO; rw [if_neg (by omega), if_neg (by simp [h2]; omega), if_pos h3]
theorem writeO_full {ls : List ByteArray} {lp : List (Int × ByteArray)} {x : Int} {t : ByteArray} (h : ¬ 64 < t.size) (h2 : rightB ls lp = true) (h3 : 0 ≤ x ∧ x < ls.length) (h4 : lp.length = 200) : writeO ls lp x t = ill 9 := by
  unfold writeO; rw [if_neg (by omega), if_neg (by simp [h2]; omega), if_neg (by simpa using h3), if_pos h4]
theorem writeO_ok {ls : List ByteArray} {lp : List (Int × ByteArray)} {x : Int} {t : ByteArray} (h : ¬ 64 < t.size) (h2 : rightB ls lp = true) (h3 : 0 ≤ x ∧ x < ls.length) (h4 : ¬ lp.length = 200) : writeO ls lp x t = ⟨ls, lp ++ [(x, t)], ByteArray.empty, 0⟩ := by
  unfold writeO; rw [if_neg (by omega), if_neg (by simp [h2]; omega), if_neg (by simpa using h3), if_neg h4]

def flushO (ls : List ByteArray) (lp : List (Int × ByteArray)) : Out := if rightB ls lp = true then ⟨flushD ls lp, [], ByteArray.empty, 0⟩ else ill 1
theorem flushO_form {ls : List ByteArray} {lp : List (Int × ByteArray)} (h : rightB ls lp = false) : flushO ls lp = ill 1 := by unfold flushO; rw [h]; rfl
theorem flushO_ok {ls : List ByteArray} {lp : List (Int × ByteArray)} (h : rightB ls lp = true) : flushO ls lp = ⟨flushD ls lp, [], ByteArray.empty, 0⟩ := by unfold flushO; rw [if_pos h]

/-- What a crash leaves: the sectors, the pending writes. -/
def crashO (ls : List ByteArray) (lp : List (Int × ByteArray)) (kp : List Int) : List ByteArray × List (Int × ByteArray) :=
  if 400 < kp.length then ([], []) else if rightB ls lp = true then (flushD ls (keptD lp kp), []) else (ls, lp)
theorem crashO_size {ls : List ByteArray} {lp : List (Int × ByteArray)} {kp : List Int} (h : 400 < kp.length) : crashO ls lp kp = ([], []) := by unfold crashO; rw [if_pos h]
theorem crashO_form {ls : List ByteArray} {lp : List (Int × ByteArray)} {kp : List Int} (h : ¬ 400 < kp.length) (h2 : rightB ls lp = false) : crashO ls lp kp = (ls, lp) := by unfold crashO; rw [if_neg h, h2]; rfl
theorem crashO_ok {ls : List ByteArray} {lp : List (Int × ByteArray)} {kp : List Int} (h : ¬ 400 < kp.length) (h2 : rightB ls lp = true) : crashO ls lp kp = (flushD ls (keptD lp kp), []) := by unfold crashO; rw [if_neg h, if_pos h2]
end Go.Proofs.YtkigmpeanllimaaGreatDoor.Disk

/- Boxes of the call's own; what a right disk holds. -/
namespace Go.Proofs.YtkigmpeanllimaaGreatDoor.Disk
open Go.RowKit Go.Proofs.YtkigmpeanllimaaGreatDoor.Mem Go.Proofs.YtkigmpeanllimaaGreatDoor.Harn Go.Proofs.YtkigmpeanllimaaGreatDoor.DiskP

theorem right_pends {ls : List ByteArray} {lp : List (Int × ByteArray)} (h : rightB ls lp = true) : (∀ y ∈ lp, 0 ≤ y.1 ∧ y.1 < 64) ∧ (∀ y ∈ lp, 0 ≤ y.1 ∧ y.2.size ≤ 2000000) ∧ (∀ t ∈ ls, t.size ≤ 2000000) ∧ 1 ≤ ls.length ∧ ls.length ≤ 64 ∧ lp.length ≤ 200 ∧ ∀ y ∈ lp, y.2.size ≤ 2000000 := by
  obtain ⟨h1, h2, h3, h4, h5⟩ := (right_iff ls lp).1 h
  refine ⟨fun y hy => ?_, fun y hy => ?_, fun t ht => ?_, h1, h2, h3, fun y hy => ?_⟩
  · have := h5 y hy; unfold okP at this; omega
  · have := h5 y hy; unfold okP at this; omega
  · have := h4 t ht; omega
  · have := h5 y hy; unfold okP at this; omega

theorem strs_replicate {W : World} {g n : Nat} {T : TypeId} (h : HasRow W g (List.replicate n (.string ByteArray.empty)) T) : StrsAt W g 0 (List.replicate n ByteArray.empty) := row_strs (T := T) (by simpa using h)

/-- The cells of a disk's box, of a box for what is told. -/
def Box2 (W : World) (g : Nat) (vs vp : Value) : Prop := HasRow W g [vs, vp] 26
def Box4 (W : World) (g : Nat) : Prop := HasRow W g [.slice none 0 0, .slice none 0 0, .string ByteArray.empty, .int .i64 0] 69
theorem Box2.cells {W : World} {g : Nat} {vs vp : Value} (h : Box2 W g vs vp) : W.cell? ⟨g, 0, none⟩ = some vs ∧ W.cell? ⟨g, 1, none⟩ = some vp ∧ (∀ o, W.frozen? ⟨g, o, none⟩ = false) := ⟨Mem.cell_of_row h 0, Mem.cell_of_row h 1, Mem.frozen_of_row h⟩
theorem Box4.cells {W : World} {g : Nat} (h : Box4 W g) : W.cell? ⟨g, 0, none⟩ = some (.slice none 0 0) ∧ W.cell? ⟨g, 1, none⟩ = some (.slice none 0 0) ∧ W.cell? ⟨g, 2, none⟩ = some (.string ByteArray.empty) ∧ W.cell? ⟨g, 3, none⟩ = some (.int .i64 0) ∧ (∀ o, W.frozen? ⟨g, o, none⟩ = false) := ⟨Mem.cell_of_row h 0, Mem.cell_of_row h 1, Mem.cell_of_row h 2, Mem.cell_of_row h 3, Mem.frozen_of_row h⟩
theorem box2_new (w : World) (vs vp : Value) (o : Obj) : Box2 ((w.alloc (.cells #[vs, vp] 26)).alloc o) w.heap.size vs vp := Sha.row_alloc (Sha.row_new w [vs, vp] 26) _
theorem box4_new (w : World) (o : Obj) : Box4 ((w.alloc o).alloc (.cells #[.slice none 0 0, .slice none 0 0, .string ByteArray.empty, .int .i64 0] 69)) (w.heap.size + 1) := Sha.row_new_at (w.alloc _) [.slice none 0 0, .slice none 0 0, .string ByteArray.empty, .int .i64 0] 69 _ (by simp)
theorem Box2.below {W W' : World} {g B : Nat} {vs vp : Value} (h : Box2 W g vs vp) (hb : Below B W W') (hg : g < B) : Box2 W' g vs vp := Sha.row_below h hb hg
theorem Box4.below {W W' : World} {g B : Nat} (h : Box4 W g) (hb : Below B W W') (hg : g < B) : Box4 W' g := Sha.row_below h hb hg

end Go.Proofs.YtkigmpeanllimaaGreatDoor.Disk

/- 'append(xs, x)' for pending writes: one that has no room, one that owns its row. -/
namespace Go.Proofs.YtkigmpeanllimaaGreatDoor.Disk
open Go.RowKit Go.Proofs.YtkigmpeanllimaaGreatDoor.Mem Go.Proofs.YtkigmpeanllimaaGreatDoor.Harn

theorem pcells_snoc (l : List (Int × ByteArray)) (y : Int × ByteArray) : pcells (l ++ [y]) = pcells l ++ [.int .i64 y.1, .string y.2] := by
  induction l with
  | nil => rfl
  | cons z l ih => simp [pcells, ih]
theorem pends_of_own {W : World} {base g cap : Nat} {lp : List (Int × ByteArray)} (h : W.ownsRow base 78 2 (.slice (some ⟨g, 0, none⟩) lp.length cap) lp.length (pcells lp)) : PendsAt W g 0 lp := fun j hj => by
  obtain ⟨q1, q2⟩ := pcells_at lp j hj
  rw [Nat.zero_add]
  exact ⟨(h.cellAt (j * 2) (by omega)).trans q1, (h.cellAt (j * 2 + 1) (by omega)).trans q2, h.frozenAt _, h.frozenAt _⟩
/-- A list of pending writes that owns its row, or is nil. -/
def OwnP (W : World) (base : Nat) (v : Value) (l : List (Int × ByteArray)) : Prop := W.ownsRow base 78 2 v l.length (pcells l)
theorem OwnP.pends {W : World} {base : Nat} {v : Value} {l : List (Int × ByteArray)} (h : OwnP W base v l) : Pends W v l := by
  have h0 := h
  rcases h.2 with ⟨rfl, hn⟩ | ⟨g, cap, cur, rfl, _⟩
  · exact ⟨none, 0, by rw [hn], fun j hj => by omega⟩
  · exact (pends_of_own h0).pends cap
theorem ownP_nil (W : World) (base : Nat) : OwnP W base (.slice none 0 0) [] := World.ownsRow_nil _ _ _ _
theorem OwnP.same {W W' : World} {base B : Nat} {v : Value} {l : List (Int × ByteArray)} (h : OwnP W base v l) (hb : ∀ g, v.ownBlock = some g → W'.heap[g]? = W.heap[g]?) (hB : B ≤ base) : OwnP W' B v l := by
  obtain ⟨h1, h2⟩ := h
  refine ⟨h1, ?_⟩
  rcases h2 with ⟨rfl, h2⟩ | ⟨g, cap, cur, rfl, e2, e3, e4⟩
  · exact .inl ⟨rfl, h2⟩
  · exact .inr ⟨g, cap, cur, rfl, by omega, (hb g rfl).trans e3, e4⟩
theorem OwnP.lt {W : World} {base : Nat} {v : Value} {l : List (Int × ByteArray)} (h : OwnP W base v l) : ∀ g, v.ownBlock = some g → base ≤ g ∧ g < W.heap.size := World.ownsRow.lt h
theorem OwnP.below {W W' : World} {base B : Nat} {v : Value} {l : List (Int × ByteArray)} (h : OwnP W base v l) (hb : Below W.heap.size W W') (hB : B ≤ base) : OwnP W' B v l := h.same (fun g hg => hb.block g (h.lt g hg).2) hB
theorem OwnP.setCell {W : World} {base : Nat} {v : Value} {l : List (Int × ByteArray)} (h : OwnP W base v l) {a : Addr} (ha : v.ownBlock ≠ some a.block) (u : Value) : OwnP (W.setCell a u) base v l := h.same (fun g hg => Below.heap_setCell _ _ _ _ (fun e => ha (by rw [← e]; exact hg))) (Nat.le_refl _)
theorem add_zero_addr (b j : Nat) : (⟨b, 0, none⟩ : Addr).add j = ⟨b, j, none⟩ := by unfold Addr.add; split <;> simp_all
theorem news_of {W : World} {b : Nat} {x : Int} {t : ByteArray} (h0 : W.cell? ⟨b, 0, none⟩ = some (.int .i64 x)) (h1 : W.cell? ⟨b, 1, none⟩ = some (.string t)) : ∀ j u, ([.int .i64 x, .string t] : List Value)[j]? = some u → W.cell? ((⟨b, 0, none⟩ : Addr).add j) = some u := fun j u hu => by
  rw [add_zero_addr]
  rcases j with _ | _ | j
  · simp at hu; rw [h0, hu]
  · simp at hu; rw [h1, hu]
  · simp at hu
theorem olds_of {W : World} {g : Nat} {lp : List (Int × ByteArray)} (h : PendsAt W g 0 lp) : ∀ j u, (pcells lp)[j]? = some u → W.cell? ((⟨g, 0, none⟩ : Addr).add j) = some u := fun j u hu => by
  have hl := length_pcells lp
  have hj : j < (pcells lp).length := by
    rcases Nat.lt_or_ge j (pcells lp).length with h | h
    · exact h
    · rw [List.getElem?_eq_none h] at hu; cases hu
  obtain ⟨q1, q2⟩ := pcells_at lp (j / 2) (by omega)
  obtain ⟨c1, c2, _, _⟩ := h (j / 2) (by omega)
  rw [add_zero_addr]
  rw [Nat.zero_add] at c1 c2
  by_cases hp : j % 2 = 0
  · rw [show j / 2 * 2 = j by omega] at q1 c1
    rw [c1, ← q1, hu]
  · rw [show j / 2 * 2 + 1 = j by omega] at q2 c2
    rw [c2, ← q2, hu]

/-- Behind a list that has no room: in a block of its own. -/
theorem app_one (ty : TypeId) (g b : Nat) (lp : List (Int × ByteArray)) (x : Int) (t : ByteArray) (W : World) (h : PendsAt W g 0 lp) (h0 : W.cell? ⟨b, 0, none⟩ = some (.int .i64 x)) (h1 : W.cell? ⟨b, 1, none⟩ = some (.string t)) (hn : lp.length ≤ 1100000) :
    ∃ g' cap W1, (Builtin.append_ #[24, 24] ty #[.slice (some ⟨g, 0, none⟩) lp.length lp.length, .slice (some ⟨b, 0, none⟩) 1 1]).run Tryz.prog W = .ok (.slice (some ⟨g', 0, none⟩) (lp.length + 1) cap) W1 ∧ W1.ownsRow W.heap.size 78 2 (.slice (some ⟨g', 0, none⟩) (lp.length + 1) cap) (lp.length + 1) (pcells (lp ++ [(x, t)])) ∧ W.heap.size ≤ g' ∧ g' < W1.heap.size ∧ Below W.heap.size W W1 := by
  obtain ⟨i, hi0, hz0, hz1, hz2⟩ := info_parts infoPend
  obtain ⟨v', W1, hr, hown, hgr⟩ := run_append_arg_grows (P := Tryz.prog) W 24 ty 78 i (.agg #[.int .i64 0, .string ByteArray.empty]) 2 24 underPends hi0 hz0 hz1 hz2 rfl (by omega) ⟨g, 0, none⟩ lp.length lp.length (pcells lp) (length_pcells lp) (olds_of h) ⟨b, 0, none⟩ 1 1 [.int .i64 x, .string t] rfl (news_of h0 h1) (by omega) (by unfold maxLen; omega) (by omega)
  have hown0 := hown
  rcases hown.2 with ⟨_, h0⟩ | ⟨g', cap, cur, rfl, hb, hg, _⟩
  · omega
  · refine ⟨g', cap, W1, hr, by rw [pcells_snoc]; exact hown0, hb, ?_, bel_grown hgr⟩
    rcases Nat.lt_or_ge g' W1.heap.size with hlt | hge
    · exact hlt
    · rw [Array.getElem?_eq_none hge] at hg; cases hg

/-- Behind a list that owns its row, or is nil. -/
theorem app_own (ty : TypeId) (base b : Nat) (v : Value) (lp : List (Int × ByteArray)) (x : Int) (t : ByteArray) (W : World) (h : W.ownsRow base 78 2 v lp.length (pcells lp)) (hbase : base ≤ W.heap.size) (h0 : W.cell? ⟨b, 0, none⟩ = some (.int .i64 x)) (h1 : W.cell? ⟨b, 1, none⟩ = some (.string t)) (hn : lp.length ≤ 1100000) :
    ∃ g' cap W1, (Builtin.append_ #[24, 24] ty #[v, .slice (some ⟨b, 0, none⟩) 1 1]).run Tryz.prog W = .ok (.slice (some ⟨g', 0, none⟩) (lp.length + 1) cap) W1 ∧ W1.ownsRow base 78 2 (.slice (some ⟨g', 0, none⟩) (lp.length + 1) cap) (lp.length + 1) (pcells (lp ++ [(x, t)])) ∧ (v.ownBlock = some g' ∨ g' = W.heap.size) ∧ g' < W1.heap.size ∧ W.grownBy W1 v.ownBlock := by
  obtain ⟨i, hi0, hz0, hz1, hz2⟩ := info_parts infoPend
  obtain ⟨g', cap, W1, hr, hown, hgr, hat, hlt⟩ := run_append_lies (P := Tryz.prog) W 24 ty base 78 i (.agg #[.int .i64 0, .string ByteArray.empty]) 2 24 underPends hi0 hz0 hz1 hz2 rfl (by omega) v lp.length (pcells lp) h ⟨b, 0, none⟩ 1 1 [.int .i64 x, .string t] rfl (news_of h0 h1) (by simp [Value.oneCell']) (by omega) (by unfold maxLen; omega) (by omega) hbase W.heap.size rfl
  exact ⟨g', cap, W1, hr, by rw [pcells_snoc]; exact hown, hat, hlt, hgr⟩

/-- Either of them: a list of the call's own, of which it is known that it has no room, or that it owns its row. -/
theorem app_any (ty : TypeId) (base g c b : Nat) (lp : List (Int × ByteArray)) (x : Int) (t : ByteArray) (W : World) (h : PendsAt W g 0 lp) (ho : c = lp.length ∨ W.ownsRow base 78 2 (.slice (some ⟨g, 0, none⟩) lp.length c) lp.length (pcells lp)) (hbase : base ≤ W.heap.size) (h0 : W.cell? ⟨b, 0, none⟩ = some (.int .i64 x)) (h1 : W.cell? ⟨b, 1, none⟩ = some (.string t)) (hn : lp.length ≤ 1100000) :
    ∃ g' cap W1, (Builtin.append_ #[24, 24] ty #[.slice (some ⟨g, 0, none⟩) lp.length c, .slice (some ⟨b, 0, none⟩) 1 1]).run Tryz.prog W = .ok (.slice (some ⟨g', 0, none⟩) (lp.length + 1) cap) W1 ∧ PendsAt W1 g' 0 (lp ++ [(x, t)]) ∧ (g' = g ∨ g' ≥ W.heap.size) ∧ g' < W1.heap.size ∧ Only (fun k => k = g) W W1 ∧ OwnP W1 base (.slice (some ⟨g', 0, none⟩) (lp.length + 1) cap) (lp ++ [(x, t)]) := by
  have hle : (lp ++ [(x, t)]).length = lp.length + 1 := by simp
  rcases ho with rfl | ho
  · obtain ⟨g', cap, W1, hr, a1, a2, a3, a4⟩ := app_one ty g b lp x t W h h0 h1 hn
    exact ⟨g', cap, W1, hr, pends_of_own (base := W.heap.size) (cap := cap) (by rw [hle]; exact a1), .inr a2, a3, Only.of_below _ a4, by unfold OwnP; rw [hle]; exact own_below a1 rfl hbase⟩
  · obtain ⟨g', cap, W1, hr, a1, a2, a3, a4⟩ := app_own ty base b _ lp x t W ho hbase h0 h1 hn
    refine ⟨g', cap, W1, hr, pends_of_own (base := base) (cap := cap) (by rw [hle]; exact a1), ?_, a3, Only.of_grown a4 rfl, by unfold OwnP; rw [hle]; exact a1⟩
    rcases a2 with a2 | a2
    · exact .inl (Option.some.inj a2).symm
    · exact .inr (by omega)
end Go.Proofs.YtkigmpeanllimaaGreatDoor.Disk

/- What the model's DiskNew and l03Ill answer. -/
namespace Go.Proofs.YtkigmpeanllimaaGreatDoor.Disk
open Go.RowKit Go.Proofs.YtkigmpeanllimaaGreatDoor.Mem Go.Proofs.YtkigmpeanllimaaGreatDoor.Harn Go.Proofs.YtkigmpeanllimaaGreatDoor.DiskP

/-- A call told o; of the disk's pending writes it is known besides that they own their row. -/
def ToldP (w : World) (o : Out) (e : Ending) (w' : World) : Prop := ∃ us up, e = .returned (outV us up o.t o.c) ∧ Own w' w.heap.size w'.heap.size us up o.ls o.lp ∧ Below w.heap.size w w' ∧ OwnP w' w.heap.size up o.lp ∧ (o.lp.length = 0 → up = .slice none 0 0)
def ToldDP (w : World) (ls : List ByteArray) (lp : List (Int × ByteArray)) (e : Ending) (w' : World) : Prop := ∃ us up, e = .returned (.agg #[us, up]) ∧ Own w' w.heap.size w'.heap.size us up ls lp ∧ Below w.heap.size w w' ∧ OwnP w' w.heap.size up lp ∧ (lp.length = 0 → up = .slice none 0 0)
theorem ToldP.told {w : World} {o : Out} {e : Ending} {w' : World} (h : ToldP w o e w') : Told w o e w' := by
  obtain ⟨us, up, h1, h2, h3, _⟩ := h
  exact ⟨us, up, h1, h2, h3⟩
theorem ToldDP.told {w : World} {ls : List ByteArray} {lp : List (Int × ByteArray)} {e : Ending} {w' : World} (h : ToldDP w ls lp e w') : ToldD w ls lp e w' := by
  obtain ⟨us, up, h1, h2, h3, _⟩ := h
  exact ⟨us, up, h1, h2, h3⟩

theorem ill_any (c : Int) (w : World) : Calls Tryz.prog 68 #[.int .i64 c] w fun e w' => e = .returned (outV (.slice none 0 0) (.slice none 0 0) ByteArray.empty c) ∧ Below w.heap.size w w' := by
  go_enter Tryz.func68, Tryz.ntmps68
  go_wp2_with fail
  refine bodyPost_ret (v := outV (.slice none 0 0) (.slice none 0 0) ByteArray.empty c) (by simp [results, Tryz.results68, go_sem]; rfl) rfl ⟨rfl, ?_⟩
  repeat' (first | exact (Below.refl _ _).alloc (Nat.le_refl _) _ | refine Below.setCell ?_ (by simp) _)

set_option maxRecDepth 100000 in
set_option maxHeartbeats 1000000 in
theorem specNew_own (n : Int) (w : World) : Calls Tryz.prog 53 #[.int .i64 n] w fun e w' => ToldDP w (newD n) [] e w' := by
  by_cases h : 1 ≤ n ∧ n ≤ 64
  · obtain ⟨k, rfl⟩ := Int.eq_ofNat_of_zero_le (show 0 ≤ n by omega)
    have KY : Hid (∀ W, Calls Tryz.prog 65 #[.int .i64 (k : Int), .int .i64 1, .int .i64 64] W fun e w' => e = .returned (.bool true) ∧ w' = W) := fun W => is_yes _ _ _ W h.1 h.2
    rw [newD_yes (by omega) (by omega), Int.toNat_natCast]
    obtain ⟨W1, hmk, hr1, hb1, hz1⟩ := make_strs k (by omega) (w.alloc (.cells #[.slice none 0 0, .slice none 0 0] 26))
    simp at hmk hz1 hr1
    have hrow : HasRow W1 w.heap.size [Value.slice none 0 0, Value.slice none 0 0] 26 := Sha.row_below (Sha.row_new w [Value.slice none 0 0, Value.slice none 0 0] 26) hb1 (by simp)
    have q1 : W1.cell? ⟨w.heap.size, 0, none⟩ = some (.slice none 0 0) := Mem.cell_of_row hrow 0
    have q2 : W1.cell? ⟨w.heap.size, 1, none⟩ = some (.slice none 0 0) := Mem.cell_of_row hrow 1
    have q3 := Mem.frozen_of_row hrow
    have HR : Hid (StrsAt W1 (w.heap.size + 1) 0 (List.replicate k ByteArray.empty)) := strs_replicate hr1
    have HB : Hid (Below w.heap.size w W1) := ((Below.refl _ _).alloc (Nat.le_refl _) _).trans (hb1.mono (by simp))
    have HZ : Hid (W1.heap.size = w.heap.size + 1 + 1) := hz1
    clear hr1 hb1 hz1 hrow
    obtain ⟨h1, h2⟩ := h
    go_enter Tryz.func53, Tryz.ntmps53
    go_wp2_with (go_at_call 65; refine (KY.out _).mono ?_; rintro e w' ⟨rfl, rfl⟩)
    refine bodyPost_ret (v := .agg #[.slice (some ⟨w.heap.size + 1, 0, none⟩) (List.replicate k ByteArray.empty).length k, .slice none 0 0]) (by simp [results, Tryz.results53, go_sem, q1, q2]) rfl ⟨_, _, rfl, own_mk0 ?_ (by omega) (by simp [HZ.out]), ?_, ownP_nil _ _, fun _ => rfl⟩
    · repeat' (first | exact HR.out | refine StrsAt.other ?_ (by simp) _)
    · repeat' (first | exact HB.out | refine Below.setCell ?_ (by simp) _)
  · have KN : Hid (∀ W, Calls Tryz.prog 65 #[.int .i64 n, .int .i64 1, .int .i64 64] W fun e w' => e = .returned (.bool false) ∧ w' = W) := fun W => is_no _ _ _ W (by omega)
    rw [newD_no (by omega)]
    clear h
    go_enter Tryz.func53, Tryz.ntmps53
    go_wp2_with (go_at_call 65; refine (KN.out _).mono ?_; rintro e w' ⟨rfl, rfl⟩)
    refine bodyPost_ret (v := .agg #[.slice none 0 0, .slice none 0 0]) (by simp [results, Tryz.results53, go_sem]) rfl ⟨_, _, rfl, own_zero _ _ _, ?_, ownP_nil _ _, fun _ => rfl⟩
    repeat' (first | exact (Below.refl _ _).alloc (Nat.le_refl _) _ | refine Below.setCell ?_ (by simp) _)
theorem specNew_any (n : Int) (w : World) : Calls Tryz.prog 53 #[.int .i64 n] w fun e w' => ToldD w (newD n) [] e w' := (specNew_own n w).mono fun _ _ h => h.told
end Go.Proofs.YtkigmpeanllimaaGreatDoor.Disk

/- What the program's hasSector, copyTexts and copyDisk answer. -/
namespace Go.Proofs.YtkigmpeanllimaaGreatDoor.Disk
open Go.RowKit Go.Proofs.YtkigmpeanllimaaGreatDoor.Mem Go.Proofs.YtkigmpeanllimaaGreatDoor.Harn

theorem has_yes (va : Option Addr) (n c : Nat) (vp : Value) (x : Int) (w : World) (h0 : 0 ≤ x) (h1 : x < n) : Calls Tryz.prog 64 #[.agg #[.slice va n c, vp], .int .i64 x] w fun e w' => e = .returned (.bool true) ∧ Below w.heap.size w w' := by
  go_enter Tryz.func64, Tryz.ntmps64
  go_wp2
  go_ret
  exact ⟨rfl, (Below.refl _ _).alloc (Nat.le_refl _) _⟩
theorem has_no (va : Option Addr) (n c : Nat) (vp : Value) (x : Int) (w : World) (h : x < 0 ∨ (n : Int) ≤ x) : Calls Tryz.prog 64 #[.agg #[.slice va n c, vp], .int .i64 x] w fun e w' => e = .returned (.bool false) ∧ Below w.heap.size w w' := by
  by_cases h0 : x < 0
  · clear h
    go_enter Tryz.func64, Tryz.ntmps64
    go_wp2
    go_ret
    exact ⟨rfl, (Below.refl _ _).alloc (Nat.le_refl _) _⟩
  · have h1 : (n : Int) ≤ x := by omega
    have h2 : 0 ≤ x := by omega
    have h3 : ¬ x < (n : Int) := by omega
    have h4 : decide (x < (n : Int)) = false := decide_eq_false h3
    clear h h0
    go_enter Tryz.func64, Tryz.ntmps64
    go_wp2
    go_ret
    exact ⟨rfl, (Below.refl _ _).alloc (Nat.le_refl _) _⟩

theorem join_empty (t : ByteArray) (w : World) (h : t.size ≤ 2000000) : Calls Tryz.prog 60 #[.string ByteArray.empty, .string t] w fun e w' => e = .returned (.string t) ∧ Below w.heap.size w w' := by
  refine (Join.join_any ByteArray.empty t w (by simp) (by omega)).mono ?_
  rintro e w' ⟨rfl, h2⟩
  exact ⟨by simp, h2⟩

set_option maxHeartbeats 1000000 in
theorem copyTexts_any (v : Value) (l : List ByteArray) (w : World) (h : Strs w v l) (hn : l.length ≤ 1100000) (hs : ∀ t ∈ l, t.size ≤ 2000000) :
    Calls Tryz.prog 61 #[v] w fun e w' => e = .returned (.slice (some ⟨w.heap.size, 0, none⟩) l.length l.length) ∧ HasRow w' w.heap.size (l.map Value.string) 9 ∧ Below w.heap.size w w' ∧ w.heap.size < w'.heap.size := by
  obtain ⟨a, cap, rfl, hc⟩ := h
  have HC : Hid (∀ j (h : j < l.length), ∃ b o, a = some ⟨b, o, none⟩ ∧ w.cell? ⟨b, o + j, none⟩ = some (.string l[j])) := hc
  have HSS : Hid (∀ t ∈ l, t.size ≤ 2000000) := hs
  obtain ⟨W1, hmk, hr1, hb1, hz1⟩ := make_strs l.length (by omega) w
  have HR : Hid _ := hr1
  have HB : Hid (Below w.heap.size w W1) := hb1
  have HZ : Hid (w.heap.size < W1.heap.size) := by unfold Hid; omega
  clear hc hr1 hb1 hz1 hs
  go_enter Tryz.func61, Tryz.ntmps61
  go_wp2
  go_loopw [11] (fun i wr => ∃ k : Nat, k ≤ l.length ∧ i = .int .i64 k ∧ HasRow wr w.heap.size (copyTo l k) 9 ∧ Below w.heap.size w wr ∧ w.heap.size < wr.heap.size) (fun i _ => l.length - (intOf i).toNat)
  case atStart => exact ⟨0, by omega, rfl, by rw [copyTo_start]; exact HR.out, HB.out, HZ.out⟩
  case round =>
    clear HR HB HZ
    obtain ⟨k, hk, rfl, hrow, hbel, hsz⟩ := hrel
    by_cases hlt : k < l.length
    · obtain ⟨b, o, rfl, hcell⟩ := HC.out k hlt
      have c1 : wr.cell? ⟨b, o + k, none⟩ = some (.string l[k]) := by rw [hbel.cell (World.block_lt_of_cell? w _ hcell)]; exact hcell
      have HJ : Hid (∀ W, Calls Tryz.prog 60 #[.string ByteArray.empty, .string l[k]] W fun e w' => e = .returned (.string l[k]) ∧ Below W.heap.size W w') := fun W => join_empty _ W (HSS.out _ (List.getElem_mem hlt))
      have HSET : Hid ((copyTo l k).set k (.string l[k]) = copyTo l (k + 1)) := copyTo_set l k hlt
      have HCEL : Hid ((copyTo l k)[k]? = some (.string ByteArray.empty)) := copyTo_cell l k hlt
      have HROW : Hid (HasRow wr w.heap.size (copyTo l k) 9) := hrow
      have HBEL : Hid (Below w.heap.size w wr) := hbel
      have p1 : (k : Int) < (l.length : Int) := by omega
      generalize l[k] = t at *
      clear hrow hcell hbel
      go_wp2_with (go_at_call 60; refine (HJ.out _).mono ?_; rintro e w1 ⟨rfl, hb1⟩; have hr1 : HasRow w1 w.heap.size (copyTo l k) 9 := Sha.row_below HROW.out hb1 hsz; have c2 : w1.cell? ⟨w.heap.size, k, none⟩ = some (.string ByteArray.empty) := (Mem.cell_of_row hr1 k).trans HCEL.out; have hfz := Mem.frozen_of_row hr1 k; have HR1 : Hid _ := hr1; have HB1 : Hid _ := hb1; have hz1 := hb1.size; clear hr1 hb1)
      go_roundw
      case rel => exact ⟨k + 1, by omega, by go_num, by rw [← HSET.out]; exact row_set HR1.out _ _, (HBEL.out.trans (HB1.out.mono HBEL.out.size)).setCell (p := ⟨w.heap.size, k, none⟩) (Nat.le_refl _) _, by simp; omega⟩
      case measure => simp [intOf]; omega
    · have e : k = l.length := by omega
      subst e
      rw [copyTo_end] at hrow
      have HR : Hid _ := hrow
      have HB : Hid (Below w.heap.size w wr) := hbel
      clear hrow hbel
      go_wp2
      go_ret
      exact ⟨rfl, HR.out, HB.out, hsz⟩
end Go.Proofs.YtkigmpeanllimaaGreatDoor.Disk

/- What the program's copyDisk answers. -/
namespace Go.Proofs.YtkigmpeanllimaaGreatDoor.Disk
open Go.RowKit Go.Proofs.YtkigmpeanllimaaGreatDoor.Mem Go.Proofs.YtkigmpeanllimaaGreatDoor.Harn

theorem row_lt {W : World} {g : Nat} {cs : List Value} {e : TypeId} (hr : HasRow W g cs e) : g < W.heap.size := by
  rcases Nat.lt_or_ge g W.heap.size with hlt | hge
  · exact hlt
  · unfold HasRow at hr; rw [Array.getElem?_eq_none hge] at hr; cases hr

set_option maxRecDepth 100000 in
set_option maxHeartbeats 2000000 in
theorem copyDisk_at (vs vp : Value) (ls : List ByteArray) (lp : List (Int × ByteArray)) (w : World) (hs : Strs w vs ls) (hp : Pends w vp lp) (h1 : ls.length ≤ 1100000) (h2 : lp.length ≤ 1100000) (h3 : ∀ t ∈ ls, t.size ≤ 2000000) (h4 : ∀ y ∈ lp, y.2.size ≤ 2000000) :
    Calls Tryz.prog 28 #[.agg #[vs, vp]] w fun e w' => ∃ gs gp, e = .returned (.agg #[.slice (some ⟨gs, 0, none⟩) ls.length ls.length, .slice (some ⟨gp, 0, none⟩) lp.length lp.length]) ∧ StrsAt w' gs 0 ls ∧ PendsAt w' gp 0 lp ∧ w.heap.size ≤ gs ∧ w.heap.size ≤ gp ∧ gs ≠ gp ∧ gs < w'.heap.size ∧ gp < w'.heap.size ∧ Below w.heap.size w w' := by
  obtain ⟨a2, cap2, rfl, hc2⟩ := hp
  have HC : Hid (∀ j (h : j < lp.length), ∃ b o, a2 = some ⟨b, o, none⟩ ∧ w.cell? ⟨b, o + j * 2, none⟩ = some (.int .i64 lp[j].1) ∧ w.cell? ⟨b, o + j * 2 + 1, none⟩ = some (.string lp[j].2)) := hc2
  have HS : Hid (Strs w vs ls) := hs
  have H3 : Hid (∀ t ∈ ls, t.size ≤ 2000000) := h3
  have H4 : Hid (∀ y ∈ lp, y.2.size ≤ 2000000) := h4
  obtain ⟨W1, hmk, hr1, hb1, hz1⟩ := make_pends lp.length (by omega) ((w.alloc (Obj.cells #[vs, .slice a2 lp.length cap2] 26)).alloc (Obj.cells #[Value.slice none 0 0, Value.slice none 0 0] 26))
  simp at hmk hr1 hz1
  have HR : Hid (PendsAt W1 (w.heap.size + 1 + 1) 0 (List.replicate lp.length (0, ByteArray.empty))) := hr1
  have HB : Hid (Below w.heap.size w W1) := (((Below.refl _ _).alloc (Nat.le_refl _) _).alloc (by simp) _).trans (hb1.mono (by simp; omega))
  have R0 : Hid (HasRow W1 w.heap.size [vs, .slice a2 lp.length cap2] 26) := Sha.row_below (Sha.row_alloc (Sha.row_new w [vs, .slice a2 lp.length cap2] 26) _) hb1 (by simp; omega)
  have R1 : Hid (HasRow W1 (w.heap.size + 1) [Value.slice none 0 0, Value.slice none 0 0] 26) := Sha.row_below (Sha.row_new_at (w.alloc _) [Value.slice none 0 0, Value.slice none 0 0] 26 _ (by simp)) hb1 (by simp)
  have HZ : Hid (w.heap.size + 3 ≤ W1.heap.size) := by unfold Hid; omega
  have e0 : W1.cell? ⟨w.heap.size, 1, none⟩ = some (.slice a2 lp.length cap2) := Mem.cell_of_row R0.out 1
  clear hc2 hs h3 h4 hr1 hb1 hz1
  go_enter Tryz.func28, Tryz.ntmps28
  go_wp2_with fail
  go_loopw [13] (fun i wr => ∃ k : Nat, k ≤ lp.length ∧ i = .int .i64 k ∧ PendsAt wr (w.heap.size + 1 + 1) 0 (pcopy lp k) ∧ Below w.heap.size w wr ∧ w.heap.size + 3 ≤ wr.heap.size ∧ HasRow wr w.heap.size [vs, .slice a2 lp.length cap2] 26 ∧ HasRow wr (w.heap.size + 1) [Value.slice none 0 0, Value.slice none 0 0] 26) (fun i _ => lp.length - (intOf i).toNat)
  case atStart => exact ⟨0, by omega, rfl, by rw [pcopy_start]; exact HR.out, HB.out, HZ.out, R0.out, R1.out⟩
  case round =>
    clear HR HB HZ R0 R1 e0 hmk
    obtain ⟨k, hk, rfl, hrow, hbel, hsz, hr0, hr1⟩ := hrel
    by_cases hlt : k < lp.length
    · obtain ⟨b, o, rfl, d1, d2⟩ := HC.out k hlt
      have c1 : wr.cell? ⟨b, o + k * 2, none⟩ = _ := (hbel.cell (World.block_lt_of_cell? w _ d1)).trans d1
      have c2 : wr.cell? ⟨b, o + k * 2 + 1, none⟩ = _ := (hbel.cell (World.block_lt_of_cell? w _ d2)).trans d2
      have hlp := length_pcopy lp k hk
      obtain ⟨e1, e2, f1, f2⟩ := hrow k (by omega)
      simp only [Nat.zero_add] at e1 e2 f1 f2
      have HROW : Hid (PendsAt wr (w.heap.size + 1 + 1) 0 (pcopy lp k)) := hrow
      have HE : Hid ((pcopy lp k).set k (lp[k].1, lp[k].2) = pcopy lp (k + 1)) := pcopy_set lp k hlt
      have HJ : Hid (∀ W, Calls Tryz.prog 60 #[.string ByteArray.empty, .string lp[k].2] W fun e w' => e = .returned (.string lp[k].2) ∧ Below W.heap.size W w') := fun W => join_empty _ W (H4.out _ (List.getElem_mem hlt))
      have p0 : (0 : Int) ≤ (k : Int) := by omega
      have p1 : (k : Int) < (lp.length : Int) := by omega
      generalize lp[k].1 = x at *
      generalize lp[k].2 = t at *
      generalize (pcopy lp k)[k].1 = x0 at *
      generalize (pcopy lp k)[k].2 = t0 at *
      have HBEL : Hid (Below w.heap.size w wr) := hbel
      have HR0 : Hid _ := hr0
      have HR1 : Hid _ := hr1
      clear d1 d2 hrow hbel hr0 hr1
      have n1 : ¬ w.heap.size + 1 + 1 = wr.heap.size := by omega
      have n2 : ¬ wr.heap.size = w.heap.size + 1 + 1 := by omega
      go_wp2_with fail
      go_region_held3 (fun w' => w'.cell? ⟨wr.heap.size, 0, none⟩ = some (.int .i64 x) ∧ w'.cell? ⟨wr.heap.size, 1, none⟩ = some (.string t))
        (first
          | go_keep
          | (go_split_ands; refine ⟨?_, ?_⟩ <;> (rw [hb1.cell (by simp)]; simp [*])))
        (first | (go_at_call 60; refine (HJ.out _).mono ?_; rintro e w1 ⟨rfl, hb1⟩; obtain ⟨hcc, hff⟩ := bcell hb1; simp at hcc hff; have hq1 := hb1.size; simp at hq1; have hB1 : Below wr.heap.size wr w1 := (by refine bT ?_ hb1; repeat' (first | exact Below.refl _ _ | apply bD | apply bA)); have g1 : w1.cell? ⟨w.heap.size + 1 + 1, k * 2, none⟩ = some (.int .i64 x0) := (hB1.cell (by simp; omega)).trans e1; have g2 : w1.cell? ⟨w.heap.size + 1 + 1, k * 2 + 1, none⟩ = some (.string t0) := (hB1.cell (by simp; omega)).trans e2; have g3 : w1.frozen? ⟨w.heap.size + 1 + 1, k * 2, none⟩ = false := (hB1.frozen (by simp; omega)).trans f1; have g4 : w1.frozen? ⟨w.heap.size + 1 + 1, k * 2 + 1, none⟩ = false := (hB1.frozen (by simp; omega)).trans f2))
      have HSN : Hid (PendsAt ((w1.setCell ⟨w.heap.size + 1 + 1, k * 2, none⟩ (.int .i64 x)).setCell ⟨w.heap.size + 1 + 1, k * 2 + 1, none⟩ (.string t)) (w.heap.size + 1 + 1) 0 (pcopy lp (k + 1))) := by
        unfold Hid
        rw [← HE.out]
        have := (PendsAt.below HROW.out hB1).set (i := k) (by omega) x t
        simpa using this
      have HB1 : Hid (Below w.heap.size w w1) := HBEL.out.trans (hB1.mono HBEL.out.size)
      have HA : Hid (HasRow w1 w.heap.size [vs, .slice (some ⟨b, o, none⟩) lp.length cap2] 26) := Sha.row_below HR0.out hB1 (by omega)
      have HAB : Hid (HasRow w1 (w.heap.size + 1) [Value.slice none 0 0, Value.slice none 0 0] 26) := Sha.row_below HR1.out hB1 (by omega)
      clear hcc hff g1 g2 g3 g4 hB1
      go_wp2
      go_roundw
      case rel => exact ⟨k + 1, by omega, by go_num, HSN.out, (HB1.out.setCell (p := ⟨w.heap.size + 1 + 1, k * 2, none⟩) (by simp; omega) _).setCell (p := ⟨w.heap.size + 1 + 1, k * 2 + 1, none⟩) (by simp; omega) _, by simp; omega, Sha.row_other (Sha.row_other HA.out _ _ (by simp; omega)) _ _ (by simp; omega), Sha.row_other (Sha.row_other HAB.out _ _ (by simp)) _ _ (by simp)⟩
      case measure => simp [intOf]; omega
    · have e : k = lp.length := by omega
      subst e
      rw [pcopy_end] at hrow
      have q0 : wr.cell? ⟨w.heap.size, 0, none⟩ = some vs := Mem.cell_of_row hr0 0
      have HROW : Hid (PendsAt wr (w.heap.size + 1 + 1) 0 lp) := hrow
      have HBEL : Hid (Below w.heap.size w wr) := hbel
      have HR1 : Hid _ := hr1
      have HSW : Hid (Strs wr vs ls) := Strs.below HS.out hbel
      clear hrow hbel hr0 hr1
      go_wp2_with (go_at_call 61; refine (copyTexts_any vs ls _ HSW.out h1 H3.out).mono ?_; rintro e w1 ⟨rfl, ht1, hb1, hz1⟩; have hr1 : HasRow w1 (w.heap.size + 1) [Value.slice none 0 0, Value.slice none 0 0] 26 := Sha.row_below HR1.out hb1 (by omega); have q1 : w1.cell? ⟨w.heap.size + 1, 0, none⟩ = some (.slice none 0 0) := Mem.cell_of_row hr1 0; have q2 : w1.cell? ⟨w.heap.size + 1, 1, none⟩ = some (.slice none 0 0) := Mem.cell_of_row hr1 1; have q3 := Mem.frozen_of_row hr1; have HT1 : Hid _ := ht1; have HB1 : Hid _ := hb1; clear ht1 hb1 hr1)
      refine bodyPost_ret (v := .agg #[.slice (some ⟨wr.heap.size, 0, none⟩) ls.length ls.length, .slice (some ⟨w.heap.size + 1 + 1, 0, none⟩) lp.length lp.length]) (by simp [results, Tryz.results28, go_sem, q1, q2]) rfl ⟨_, _, rfl, ?_, ?_, by omega, by omega, by omega, by simp; omega, by simp; omega, ?_⟩
      · exact StrsAt.other (StrsAt.other (row_strs HT1.out) (by simp; omega) _) (by simp; omega) _
      · exact PendsAt.other (PendsAt.other (PendsAt.below HROW.out HB1.out) (by simp) _) (by simp) _
      · exact ((HBEL.out.trans (HB1.out.mono HBEL.out.size)).setCell (p := ⟨w.heap.size + 1, 0, none⟩) (by simp) _).setCell (p := ⟨w.heap.size + 1, 1, none⟩) (by simp) _

theorem copyDisk_any (vs vp : Value) (ls : List ByteArray) (lp : List (Int × ByteArray)) (w : World) (hs : Strs w vs ls) (hp : Pends w vp lp) (h1 : ls.length ≤ 1100000) (h2 : lp.length ≤ 1100000) (h3 : ∀ t ∈ ls, t.size ≤ 2000000) (h4 : ∀ y ∈ lp, y.2.size ≤ 2000000) :
    Calls Tryz.prog 28 #[.agg #[vs, vp]] w fun e w' => ∃ us up, e = .returned (.agg #[us, up]) ∧ Own w' w.heap.size w'.heap.size us up ls lp ∧ Below w.heap.size w w' := by
  refine (copyDisk_at vs vp ls lp w hs hp h1 h2 h3 h4).mono ?_
  rintro e w' ⟨gs, gp, rfl, a1, a2, a3, a4, a5, a6, a7, a8⟩
  exact ⟨_, _, rfl, own_mk a1 a2 a3 a6 a4 a7 a5, a8⟩
end Go.Proofs.YtkigmpeanllimaaGreatDoor.Disk

/- What the program's disk at work answers: workOn, sector. -/
namespace Go.Proofs.YtkigmpeanllimaaGreatDoor.Disk
open Go.RowKit Go.Proofs.YtkigmpeanllimaaGreatDoor.Mem Go.Proofs.YtkigmpeanllimaaGreatDoor.Harn Go.Proofs.YtkigmpeanllimaaGreatDoor.DiskP

theorem HasMap.alloc {W : World} {b n : Nat} {f : Int → Option (Int × ByteArray)} (h : HasMap W b n f) (o : Obj) : HasMap (W.alloc o) b n f := by
  obtain ⟨D, h1, h2⟩ := h
  exact ⟨D, h1.alloc o, h2⟩
theorem HasMap.below {W W' : World} {b n : Nat} {f : Int → Option (Int × ByteArray)} (h : HasMap W b n f) (hb : Below W.heap.size W W') : HasMap W' b n f := h.kept (hb.block b h.lt)
theorem HasMap.grown {W W' : World} {b n : Nat} {row : Option Nat} {f : Int → Option (Int × ByteArray)} (h : HasMap W b n f) (hg : W.grownBy W' row) (hn : some b ≠ row) : HasMap W' b n f := h.kept (hg.block b h.lt hn)
theorem HasMap.setCell {W : World} {b n : Nat} {f : Int → Option (Int × ByteArray)} (h : HasMap W b n f) {a : Addr} (ha : b ≠ a.block) (u : Value) : HasMap (W.setCell a u) b n f := h.kept (Below.heap_setCell _ _ _ _ ha)
theorem HasMap.is {W : World} {b n : Nat} {f g : Int → Option (Int × ByteArray)} (h : HasMap W b n f) (e : f = g) : HasMap W b n g := e ▸ h
theorem row_grown {W W' : World} {g : Nat} {row : Option Nat} {cs : List Value} {e : TypeId} (h : HasRow W g cs e) (hg : W.grownBy W' row) (hn : some g ≠ row) : HasRow W' g cs e := by
  have hl := row_lt h
  unfold HasRow at h ⊢
  rw [hg.block g hl hn]
  exact h

set_option maxRecDepth 100000 in
set_option maxHeartbeats 2000000 in
theorem workOn_any (vs vp : Value) (ls : List ByteArray) (lp : List (Int × ByteArray)) (w : World) (hs : Strs w vs ls) (hp : Pends w vp lp) (h1 : ls.length ≤ 1100000) (h2 : lp.length ≤ 1100000) (h3 : ∀ t ∈ ls, t.size ≤ 2000000) (h4 : ∀ y ∈ lp, 0 ≤ y.1 ∧ y.1 < 64) :
    Calls Tryz.prog 50 #[vs, vp] w fun e w' => ∃ gs gm, e = .returned (.agg #[.slice (some ⟨gs, 0, none⟩) ls.length ls.length, .map (some gm)]) ∧ StrsAt w' gs 0 ls ∧ HasMap w' gm lp.length (lastOf lp) ∧ w.heap.size ≤ gs ∧ w.heap.size ≤ gm ∧ gs ≠ gm ∧ gs < w'.heap.size ∧ gm < w'.heap.size ∧ Below w.heap.size w w' := by
  obtain ⟨a2, cap2, rfl, hc2⟩ := hp
  have HC : Hid (∀ j (h : j < lp.length), ∃ b o, a2 = some ⟨b, o, none⟩ ∧ w.cell? ⟨b, o + j * 2, none⟩ = some (.int .i64 lp[j].1) ∧ w.cell? ⟨b, o + j * 2 + 1, none⟩ = some (.string lp[j].2)) := hc2
  have H3 : Hid (∀ t ∈ ls, t.size ≤ 2000000) := h3
  have H4 : Hid (∀ y ∈ lp, 0 ≤ y.1 ∧ y.1 < 64) := h4
  have HSW : Hid (Strs (w.alloc (Obj.cells #[Value.slice none 0 0, Value.map none] 81)) vs ls) := Strs.below hs ((Below.refl _ _).alloc (Nat.le_refl _) _)
  have hmm := @run_makeMap Tryz.prog
  clear hc2 hs h3 h4
  go_enter Tryz.func50, Tryz.ntmps50
  go_wp2_with (go_at_call 61; refine (copyTexts_any vs ls _ HSW.out h1 H3.out).mono ?_; rintro e w1 ⟨rfl, ht1, hb1, hz1⟩; simp at ht1 hz1; have HT1 : Hid _ := ht1; have HB1 : Hid _ := hb1; clear ht1 hb1)
  have HBW : Hid (Below w.heap.size w w1) := ((Below.refl _ _).alloc (Nat.le_refl _) _).trans (HB1.out.mono (by simp))
  have HRR : Hid (HasRow w1 w.heap.size [Value.slice none 0 0, Value.map none] 81) := Sha.row_below (Sha.row_new w [Value.slice none 0 0, Value.map none] 81) HB1.out (by simp)
  go_loopw [14] (fun i wr => ∃ k : Nat, k ≤ lp.length ∧ i = .int .i64 k ∧ HasMap wr w1.heap.size k (lastOf (lp.take k)) ∧ Below w.heap.size w wr ∧ w1.heap.size + 2 ≤ wr.heap.size ∧ HasRow wr (w1.heap.size + 1) [.slice (some ⟨w.heap.size + 1, 0, none⟩) ls.length ls.length, .map (some w1.heap.size)] 81 ∧ HasRow wr w.heap.size [Value.slice none 0 0, Value.map none] 81 ∧ HasRow wr (w.heap.size + 1) (ls.map Value.string) 9) (fun i _ => lp.length - (intOf i).toNat)
  case atStart => exact ⟨0, by omega, rfl, (map_made w1).alloc _, (HBW.out.alloc (by omega) _).alloc (by simp; omega) _, by simp, Sha.row_new_at (w1.alloc _) [.slice (some ⟨w.heap.size + 1, 0, none⟩) ls.length ls.length, .map (some w1.heap.size)] 81 _ (by simp), Sha.row_alloc (Sha.row_alloc HRR.out _) _, Sha.row_alloc (Sha.row_alloc HT1.out _) _⟩
  case round =>
    obtain ⟨k, hk, rfl, hmap, hbel, hsz, hr1, hr0, hrt⟩ := hrel
    by_cases hlt : k < lp.length
    · obtain ⟨b, o, rfl, d1, d2⟩ := HC.out k hlt
      have c1 : wr.cell? ⟨b, o + k * 2, none⟩ = _ := (hbel.cell (World.block_lt_of_cell? w _ d1)).trans d1
      have c2 : wr.cell? ⟨b, o + k * 2 + 1, none⟩ = _ := (hbel.cell (World.block_lt_of_cell? w _ d2)).trans d2
      have HL : Hid ((fun z => if lp[k].1 = z then some (lp[k].1, lp[k].2) else lastOf (lp.take k) z) = lastOf (lp.take (k + 1))) := by
        unfold Hid
        funext z
        rw [List.take_succ_eq_append_getElem hlt, lastOf_snoc]
      have HX := H4.out _ (List.getElem_mem hlt)
      have p1 : (k : Int) < (lp.length : Int) := by omega
      have q0 : wr.cell? ⟨w1.heap.size + 1, 1, none⟩ = some (.map (some w1.heap.size)) := Mem.cell_of_row hr1 1
      have n1 : ¬ w1.heap.size + 1 = wr.heap.size := by omega
      generalize lp[k].1 = x at *
      generalize lp[k].2 = t at *
      have q0' : (wr.alloc (.cells #[.int .i64 x, .string t] 78)).cell? ⟨w1.heap.size + 1, 1, none⟩ = some (.map (some w1.heap.size)) := (World.cell?_alloc_lt _ _ _ (by simp; omega)).trans q0
      clear q0
      have HWF : Hid ((Lit.int .i64 x).wf = true) := WalkArith.wf_i64 (by omega)
      have HMAP : Hid (HasMap (wr.alloc (.cells #[.int .i64 x, .string t] 78)) w1.heap.size k (lastOf (lp.take k))) := hmap.alloc _
      have HBEL : Hid (Below w.heap.size w wr) := hbel
      have HR1 : Hid _ := hr1
      have HR0 : Hid _ := hr0
      have HRT : Hid _ := hrt
      clear d1 d2 hmap hbel hr1 hr0 hrt
      go_wp2_with (at_mapUpdate; refine wp_map_store _ rfl _ _ _ rfl w1.heap.size k _ HMAP.out (by unfold maxLen; omega) x (x, t) rfl rfl rfl HWF.out ?_; intro w2 hm2 hg2; have HM2 : Hid _ := hm2; have HG2 : Hid _ := hg2; clear hm2 hg2)
      have hgz := HG2.out.size
      simp at hgz
      go_roundw
      case rel =>
        refine ⟨k + 1, by omega, by go_num, HasMap.is HM2.out HL.out, ?_, by omega, row_grown (Sha.row_alloc HR1.out _) HG2.out (by simp), row_grown (Sha.row_alloc HR0.out _) HG2.out (by simp; omega), row_grown (Sha.row_alloc HRT.out _) HG2.out (by simp; omega)⟩
        exact (Only.of_grown (p := fun b => b = w1.heap.size) HG2.out rfl).below (HBEL.out.alloc (by omega) _) (by simp; omega) (fun b hb e => by omega)
      case measure => simp [intOf]; omega
    · have e : k = lp.length := by omega
      subst e
      rw [List.take_length] at hmap
      have q0 : wr.cell? ⟨w1.heap.size + 1, 0, none⟩ = some (.slice (some ⟨w.heap.size + 1, 0, none⟩) ls.length ls.length) := Mem.cell_of_row hr1 0
      have q1 : wr.cell? ⟨w1.heap.size + 1, 1, none⟩ = some (.map (some w1.heap.size)) := Mem.cell_of_row hr1 1
      have q2 : wr.cell? ⟨w.heap.size, 0, none⟩ = some (Value.slice none 0 0) := Mem.cell_of_row hr0 0
      have q3 : wr.cell? ⟨w.heap.size, 1, none⟩ = some (Value.map none) := Mem.cell_of_row hr0 1
      have q4 := Mem.frozen_of_row hr0
      have HMAP : Hid _ := hmap
      have HBEL : Hid (Below w.heap.size w wr) := hbel
      have HRT : Hid _ := hrt
      clear hmap hbel hr1 hr0 hrt
      go_wp2_with fail
      refine bodyPost_ret (v := .agg #[.slice (some ⟨w.heap.size + 1, 0, none⟩) ls.length ls.length, .map (some w1.heap.size)]) (by simp [results, Tryz.results50, go_sem, q2, q3]) rfl ⟨w.heap.size + 1, w1.heap.size, rfl, ?_, ?_, by omega, by omega, by omega, by simp; omega, by simp; omega, ?_⟩
      · exact StrsAt.other (StrsAt.other (row_strs HRT.out) (by simp) _) (by simp) _
      · exact HasMap.setCell (HasMap.setCell HMAP.out (by simp; omega) _) (by simp; omega) _
      · exact (HBEL.out.setCell (p := ⟨w.heap.size, 0, none⟩) (by simp) _).setCell (p := ⟨w.heap.size, 1, none⟩) (by simp) _
end Go.Proofs.YtkigmpeanllimaaGreatDoor.Disk

/- What the program's disk at work answers: sector, flush. -/
namespace Go.Proofs.YtkigmpeanllimaaGreatDoor.Disk
open Go.RowKit Go.Proofs.YtkigmpeanllimaaGreatDoor.Mem Go.Proofs.YtkigmpeanllimaaGreatDoor.Harn Go.Proofs.YtkigmpeanllimaaGreatDoor.DiskP

/-- What stands at a place, where f tells what is pending. -/
def secD (ls : List ByteArray) (f : Int → Option (Int × ByteArray)) (k : Nat) : ByteArray := match f (k : Int) with
  | some y => y.2
  | none => ls.getD k ByteArray.empty
theorem secD_last (ls : List ByteArray) (lp : List (Int × ByteArray)) (k : Nat) : secD ls (lastOf lp) k = readD ls lp k := rfl

set_option maxRecDepth 100000 in
set_option maxHeartbeats 1000000 in
theorem sector_any (vs : Value) (gm n k : Nat) (ls : List ByteArray) (f : Int → Option (Int × ByteArray)) (w : World) (hs : Strs w vs ls) (hm : HasMap w gm n f) (hk : k < ls.length) (h1 : ls.length ≤ 64) (h2 : ∀ z y, f z = some y → y.2.size ≤ 2000000) :
    Calls Tryz.prog 71 #[.agg #[vs, .map (some gm)], .int .i64 (k : Int)] w fun e w' => e = .returned (.string (secD ls f k)) ∧ Below w.heap.size w w' := by
  obtain ⟨a, cap, rfl, hc⟩ := hs
  have hl := map_look (HasMap.alloc hm (.cells #[.slice a ls.length cap, .map (some gm)] 81)) (x := (k : Int)) (WalkArith.wf_i64 (by omega))
  obtain ⟨b, o, rfl, c0⟩ := hc k hk
  have hbl := World.block_lt_of_cell? w _ c0
  simp only at hbl
  have p1 : (k : Int) < (ls.length : Int) := by omega
  clear hm hc
  cases e : f (k : Int) with
  | some y =>
    have HE : Hid (Ending.returned (.string (secD ls f k)) = .returned (.string y.2)) := by unfold Hid secD; rw [e]
    have HJ : Hid (∀ W, Calls Tryz.prog 60 #[.string ByteArray.empty, .string y.2] W fun e w' => e = .returned (.string y.2) ∧ Below W.heap.size W w') := fun W => join_empty _ W (h2 _ _ e)
    rw [e] at hl
    simp only [pv, Option.getD_some, Option.isSome_some] at hl
    generalize y.1 = x at *
    generalize y.2 = t at *
    clear h2 c0 e
    go_enter Tryz.func71, Tryz.ntmps71
    go_wp2_with (go_at_call 60; refine (HJ.out _).mono ?_; rintro e w1 ⟨rfl, hb1⟩)
    go_ret
    refine ⟨HE.out.symm, ?_⟩
    have hB : Below w.heap.size w ((w.alloc (.cells #[.slice (some ⟨b, o, none⟩) ls.length cap, .map (some gm)] 81)).alloc (.cells #[.int .i64 x, .string t] 78)) := ((Below.refl _ _).alloc (Nat.le_refl _) _).alloc (by simp) _
    exact hB.trans (hb1.mono hB.size)
  | none =>
    have HE : Hid (Ending.returned (.string (secD ls f k)) = .returned (.string ls[k])) := by unfold Hid secD; rw [e]; simp [hk]
    rw [e] at hl
    simp only [pv, zp, Option.getD_none, Option.isSome_none] at hl
    have c1 : ((w.alloc (.cells #[.slice (some ⟨b, o, none⟩) ls.length cap, .map (some gm)] 81)).alloc (.cells #[.int .i64 0, .string ByteArray.empty] 78)).cell? ⟨b, o + k, none⟩ = some (.string ls[k]) := ((World.cell?_alloc_lt _ _ _ (by simp; omega)).trans (World.cell?_alloc_lt _ _ _ (by simp; omega))).trans c0
    generalize ls[k] = t at *
    clear h2 c0 e
    go_enter Tryz.func71, Tryz.ntmps71
    go_wp2_with fail
    go_ret
    refine ⟨HE.out.symm, ?_⟩
    exact ((Below.refl _ _).alloc (Nat.le_refl _) _).alloc (by simp) _

/-- What is pending, of which the places below k were taken. -/
def from_ (lp : List (Int × ByteArray)) (k : Nat) : Int → Option (Int × ByteArray) := fun z => if z < (k : Int) then none else lastOf lp z
theorem from_start (lp : List (Int × ByteArray)) (h : ∀ y ∈ lp, 0 ≤ y.1) : lastOf lp = from_ lp 0 := by
  funext z
  unfold from_
  by_cases hz : z < ((0 : Nat) : Int)
  · rw [if_pos hz]
    cases e : lastOf lp z with
    | none => rfl
    | some y =>
      obtain ⟨h1, h2⟩ := lastOf_mem e
      have := h y h1
      omega
  · rw [if_neg hz]
theorem from_step (lp : List (Int × ByteArray)) (k : Nat) : (fun z => if (k : Int) = z then none else from_ lp k z) = from_ lp (k + 1) := by
  funext z
  unfold from_
  by_cases h1 : (k : Int) = z
  · rw [if_pos h1, if_pos (by omega)]
  · by_cases h2 : z < (k : Int)
    · rw [if_neg h1, if_pos h2, if_pos (by omega)]
    · rw [if_neg h1, if_neg h2, if_neg (by omega)]
theorem sec_from (ls : List ByteArray) (lp : List (Int × ByteArray)) (k : Nat) (h : k < ls.length) : secD (flTo ls lp k) (from_ lp k) k = readD ls lp k := by
  unfold secD from_ readD
  rw [if_neg (by omega)]
  cases lastOf lp (k : Int) with
  | some y => rfl
  | none =>
    show (flTo ls lp k).getD k ByteArray.empty = _
    rw [List.getD_eq_getElem?_getD, flTo_at ls lp k h]
    simp [h]

set_option maxRecDepth 100000 in
set_option maxHeartbeats 2000000 in
theorem flush_any (gs gm n c B : Nat) (ls : List ByteArray) (lp : List (Int × ByteArray)) (w : World) (hs : StrsAt w gs 0 ls) (hm : HasMap w gm n (lastOf lp)) (hne : gs ≠ gm) (hgs : gs < w.heap.size) (hB1 : B ≤ gs) (hB2 : B ≤ gm) (h1 : ls.length ≤ 64) (h2 : ∀ y ∈ lp, 0 ≤ y.1 ∧ y.2.size ≤ 2000000) :
    Calls Tryz.prog 52 #[.agg #[.slice (some ⟨gs, 0, none⟩) ls.length c, .map (some gm)]] w fun e w' => e = .returned (.agg #[.slice (some ⟨gs, 0, none⟩) ls.length c, .slice none 0 0]) ∧ StrsAt w' gs 0 (flushD ls lp) ∧ Below B w w' := by
  have hgm := hm.lt
  have hmf : ∀ (fn : Fn) (first cap : Array Value) (w : World), (Instr.makeFunc fn first cap).run Tryz.prog w = .ok (.func fn first cap) w := fun _ _ _ _ => rfl
  have HS : Hid (StrsAt w gs 0 ls) := hs
  have HM : Hid (HasMap w gm n (lastOf lp)) := hm
  have H2 : Hid (∀ y ∈ lp, 0 ≤ y.1 ∧ y.2.size ≤ 2000000) := h2
  have H3 : Hid (∀ k z y, from_ lp k z = some y → y.2.size ≤ 2000000) := fun k z y e => by
    unfold from_ at e
    split at e
    · cases e
    · exact (h2 y (lastOf_mem e).1).2
  clear hs hm h2
  go_enter Tryz.func52, Tryz.ntmps52
  go_wp2_with fail
  go_loopw [11] (fun i wr => ∃ k : Nat, k ≤ ls.length ∧ i = .int .i64 k ∧ StrsAt wr gs 0 (flTo ls lp k) ∧ HasMap wr gm n (from_ lp k) ∧ Below B w wr ∧ w.heap.size + 2 ≤ wr.heap.size ∧ HasRow wr w.heap.size [.slice (some ⟨gs, 0, none⟩) ls.length c, .map (some gm)] 81 ∧ HasRow wr (w.heap.size + 1) [Value.slice none 0 0, Value.slice none 0 0] 26) (fun i _ => ls.length - (intOf i).toNat)
  case atStart =>
    have hb0 : Below w.heap.size w ((w.alloc (.cells #[.slice (some ⟨gs, 0, none⟩) ls.length c, .map (some gm)] 81)).alloc (.cells #[Value.slice none 0 0, Value.slice none 0 0] 26)) := ((Below.refl _ _).alloc (Nat.le_refl _) _).alloc (by simp) _
    exact ⟨0, by omega, rfl, by rw [flTo_start]; exact StrsAt.below HS.out hb0, HasMap.is (HasMap.below HM.out hb0) (from_start lp fun y hy => (H2.out y hy).1), hb0.mono (by omega), by simp, Sha.row_alloc (Sha.row_new w [.slice (some ⟨gs, 0, none⟩) ls.length c, .map (some gm)] 81) _, Sha.row_new_at (w.alloc _) [Value.slice none 0 0, Value.slice none 0 0] 26 _ (by simp)⟩
  case round =>
    obtain ⟨k, hk, rfl, hst, hmap, hbel, hsz, hr0, hr1⟩ := hrel
    by_cases hlt : k < ls.length
    · have hln := length_flTo ls lp k hk
      have p0 : (0 : Int) ≤ (k : Int) := by omega
      have p1 : (k : Int) < (ls.length : Int) := by omega
      have q0 : wr.cell? ⟨w.heap.size, 0, none⟩ = some (.slice (some ⟨gs, 0, none⟩) ls.length c) := Mem.cell_of_row hr0 0
      have q1 : wr.cell? ⟨w.heap.size, 1, none⟩ = some (.map (some gm)) := Mem.cell_of_row hr0 1
      obtain ⟨e1, f1⟩ := hst k (by omega)
      simp only [Nat.zero_add] at e1 f1
      have HK : Hid (Calls Tryz.prog 71 #[.agg #[.slice (some ⟨gs, 0, none⟩) ls.length c, .map (some gm)], .int .i64 (k : Int)] wr.drew fun e w' => e = .returned (.string (readD ls lp k)) ∧ Below wr.heap.size wr w') := by
        unfold Hid
        have h := sector_any (.slice (some ⟨gs, 0, none⟩) (flTo ls lp k).length c) gm n k (flTo ls lp k) (from_ lp k) wr.drew (StrsAt.strs hst c) hmap (by omega) (by omega) (H3.out k)
        rw [hln, sec_from ls lp k hlt] at h
        exact h.mono fun e w' hh => ⟨hh.1, bT (bD (Below.refl _ _)) hh.2⟩
      have HSET : Hid ((flTo ls lp k).set k (readD ls lp k) = flTo ls lp (k + 1)) := flTo_set ls lp k hlt
      have HST : Hid _ := hst
      have HMAP : Hid _ := hmap
      have HBEL : Hid _ := hbel
      have HR0 : Hid _ := hr0
      have HR1 : Hid _ := hr1
      generalize (flTo ls lp k)[k] = t0 at *
      generalize readD ls lp k = t at *
      clear hst hmap hbel hr0 hr1
      go_wp2_with fail
      go_region_held3 (fun w' => w'.cell? ⟨w.heap.size, 0, none⟩ = some (.slice (some ⟨gs, 0, none⟩) ls.length c))
        (first
          | go_keep
          | (rw [hb1.cell (by simp; omega)]; simp [*])
          | (rw [World.cell?_setCell_other _ _ _ _ (by intro e; injection e with e _ _; omega)]; exact g3))
        (first | (go_at_call 71; refine (HK.out).mono ?_; rintro e w1 ⟨rfl, hb1⟩; have g1 : w1.cell? ⟨gs, k, none⟩ = some (.string t0) := (hb1.cell (by simp; omega)).trans e1; have g2 : w1.frozen? ⟨gs, k, none⟩ = false := (hb1.frozen (by simp; omega)).trans f1; have g3 : w1.cell? ⟨w.heap.size, 0, none⟩ = some (.slice (some ⟨gs, 0, none⟩) ls.length c) := (hb1.cell (by simp; omega)).trans q0; have g4 : w1.cell? ⟨w.heap.size, 1, none⟩ = some (.map (some gm)) := (hb1.cell (by simp; omega)).trans q1))
      have HM1 : Hid (HasMap (w1.setCell ⟨gs, k, none⟩ (.string t)) gm n (from_ lp k)) := (HasMap.below HMAP.out hb1).setCell (by simpa using hne.symm) _
      have g4' : (w1.setCell ⟨gs, k, none⟩ (.string t)).cell? ⟨w.heap.size, 1, none⟩ = some (.map (some gm)) := by rw [World.cell?_setCell_other _ _ _ _ (by intro e; injection e with e _ _; omega)]; exact g4
      have HST1 : Hid (StrsAt (w1.setCell ⟨gs, k, none⟩ (.string t)) gs 0 (flTo ls lp (k + 1))) := by
        unfold Hid
        rw [← HSET.out]
        have := (StrsAt.below HST.out hb1).set (i := k) (by omega) t
        simpa using this
      have HB1 : Hid (Below B w (w1.setCell ⟨gs, k, none⟩ (.string t))) := (HBEL.out.trans (hb1.mono (by omega))).setCell (p := ⟨gs, k, none⟩) hB1 _
      have HRA : Hid (HasRow (w1.setCell ⟨gs, k, none⟩ (.string t)) w.heap.size [.slice (some ⟨gs, 0, none⟩) ls.length c, .map (some gm)] 81) := Sha.row_other (Sha.row_below HR0.out hb1 (by omega)) _ _ (by simp; omega)
      have HRB : Hid (HasRow (w1.setCell ⟨gs, k, none⟩ (.string t)) (w.heap.size + 1) [Value.slice none 0 0, Value.slice none 0 0] 26) := Sha.row_other (Sha.row_below HR1.out hb1 (by omega)) _ _ (by simp; omega)
      have HWF : Hid ((Lit.int .i64 (k : Int)).wf = true) := WalkArith.wf_i64 (by omega)
      have hz1 := hb1.size
      clear g1 g2 g3 g4 e1 f1 q0 q1 hb1
      go_wp2_with (at_delete; refine wp_map_drop _ rfl _ _ rfl gm n _ HM1.out (k : Int) rfl rfl HWF.out ?_; intro w2 hm2 hg2; have HM2 : Hid _ := hm2; have HG2 : Hid _ := hg2; clear hm2 hg2)
      have hgz := HG2.out.size
      simp at hgz
      go_roundw
      case rel => exact ⟨k + 1, by omega, by go_num, StrsAt.grown HST1.out HG2.out hne, HasMap.is HM2.out (from_step lp k), (Only.of_grown (p := fun b => b = gm) HG2.out rfl).below HB1.out (by simp; omega) (fun b hb e => by omega), by omega, row_grown HRA.out HG2.out (by simp; omega), row_grown HRB.out HG2.out (by simp; omega)⟩
      case measure => simp [intOf]; omega
    · have e : k = ls.length := by omega
      subst e
      rw [flTo_end ls lp (fun y hy => (H2.out y hy).1)] at hst
      have q0 : wr.cell? ⟨w.heap.size, 0, none⟩ = some (.slice (some ⟨gs, 0, none⟩) ls.length c) := Mem.cell_of_row hr0 0
      have q1 : wr.cell? ⟨w.heap.size + 1, 0, none⟩ = some (.slice none 0 0) := Mem.cell_of_row hr1 0
      have q2 : wr.cell? ⟨w.heap.size + 1, 1, none⟩ = some (.slice none 0 0) := Mem.cell_of_row hr1 1
      have q3 := Mem.frozen_of_row hr1
      have HST : Hid _ := hst
      have HBEL : Hid _ := hbel
      clear hst hmap hbel hr0 hr1
      go_wp2_with fail
      refine bodyPost_ret (v := .agg #[.slice (some ⟨gs, 0, none⟩) ls.length c, .slice none 0 0]) (by simp [results, Tryz.results52, go_sem, q1, q2]) rfl ⟨rfl, ?_, ?_⟩
      · exact StrsAt.other (StrsAt.other HST.out (by simp; omega) _) (by simp; omega) _
      · exact (HBEL.out.setCell (p := ⟨w.heap.size + 1, 0, none⟩) (by simp; omega) _).setCell (p := ⟨w.heap.size + 1, 1, none⟩) (by simp; omega) _
end Go.Proofs.YtkigmpeanllimaaGreatDoor.Disk

/- What a new source is, and what it draws at an edge. -/
namespace Go.Proofs.YtkigmpeanllimaaGreatDoor.Draw
open Go.RowKit Go.Proofs.YtkigmpeanllimaaGreatDoor.Mem

theorem wrap_bd (x : Int) : 0 ≤ IntKind.u64.wrap x ∧ IntKind.u64.wrap x ≤ 18446744073709551615 := by rw [IntKind.wrap_u64]; omega

theorem src_new {W wr : World} {a : Option Addr} {len cap : Nat} {zs : List Int} {mix : Int} (hin : IsRow W a len cap zs) (hb : ∀ x, a = some x → 0 < cap → x.block < W.heap.size) (hx0 : 0 ≤ mix) (hx1 : mix ≤ 18446744073709551615)
    (hrow : HasRow wr W.heap.size [.slice a len cap, .int .i64 0, .int .u64 mix, .int .i64 0] 86) (hbel : Below W.heap.size W wr) (sz : Int) (h0 : 0 ≤ sz) (h1 : sz ≤ 12) :
    Src (wr.setCell ⟨W.heap.size, 3, none⟩ (.int .i64 sz)) W.heap.size a len cap zs ∧ Below W.heap.size W (wr.setCell ⟨W.heap.size, 3, none⟩ (.int .i64 sz)) := by
  have hbl : Below W.heap.size W (wr.setCell ⟨W.heap.size, 3, none⟩ (.int .i64 sz)) := hbel.setCell (p := ⟨W.heap.size, 3, none⟩) (Nat.le_refl _) _
  refine ⟨⟨0, mix, sz, by omega, hx0, hx1, h0, h1, row_set hrow 3 _, ?_, hb⟩, hbl⟩
  rcases hin with h | ⟨x, rfl, k1, k2, k3, k4, k5⟩
  · exact .inl h
  · refine .inr ⟨x, rfl, k1, k2, k3, fun i hi => ?_, k5⟩
    have hx := hb x rfl (by omega)
    have hbk : (x.add i).block = x.block := by unfold Addr.add; split <;> rfl
    rw [hbl.cell (by rw [hbk]; exact hx)]
    exact k4 i hi

set_option maxRecDepth 100000 in
set_option maxHeartbeats 2000000 in
theorem source_any (W : World) (a : Option Addr) (len cap : Nat) (zs : List Int) (h : IsRow W a len cap zs) :
    Calls Tryz.prog 20 #[.slice a len cap] W fun e W' => e = .returned (.pointer (some ⟨W.heap.size, 0, none⟩)) ∧ Src W' W.heap.size a len cap zs ∧ Below W.heap.size W W' := by
  have hl := row_len h
  unfold maxLen at hl
  have HIN : Hid (IsRow W a len cap zs) := h
  have HBLK : Hid (∀ x, a = some x → 0 < cap → x.block < W.heap.size) := row_blk h
  have hcap := row_cap h
  clear h
  go_enter Tryz.func20, Tryz.ntmps20
  go_wp2
  go_loopw [4] (fun i wr => ∃ (k : Nat) (mix : Int), k ≤ len ∧ i = .int .i64 k ∧ 0 ≤ mix ∧ mix ≤ 18446744073709551615 ∧ HasRow wr W.heap.size [.slice a len cap, .int .i64 0, .int .u64 mix, .int .i64 0] 86 ∧ Below W.heap.size W wr) (fun i _ => len - (intOf i).toNat)
  case atStart => exact ⟨0, 88172645463325252, by omega, rfl, by omega, by omega, (by unfold HasRow; show (W.heap.push _)[W.heap.size]? = _; simp), (Below.refl _ _).alloc (Nat.le_refl _) _⟩
  case round =>
    obtain ⟨k, mix, hk, rfl, hx0, hx1, hrow, hbel⟩ := hrel
    have c2 := Mem.cell_of_row hrow 2
    have c3 := Mem.cell_of_row hrow 3
    simp at c2 c3
    have f2 := Mem.frozen_of_row hrow 2
    have f3 := Mem.frozen_of_row hrow 3
    have HROW : Hid (HasRow wr W.heap.size [.slice a len cap, .int .i64 0, .int .u64 mix, .int .i64 0] 86) := hrow
    clear hrow
    by_cases hlt : k < len ∧ k < 64
    · obtain ⟨b, off, ha, hcell, hz0, hz1⟩ := row_at HIN.out hlt.1
      subst ha
      have hcr : wr.cell? ⟨b, off + k, none⟩ = some (.int .u8 (zs.getD k 0)) := (hbel.cell (p := ⟨b, off + k, none⟩) (HBLK.out ⟨b, off, none⟩ rfl (by omega))).trans hcell
      have h1 : (k : Int) < (len : Int) := by omega
      have h2 : (k : Int) < 64 := by omega
      clear hcell hlt
      generalize zs.getD k 0 = zv at *
      go_wp2
      go_region
      go_wp2
      go_roundw
      case rel => exact ⟨k + 1, _, by omega, by go_num, (wrap_bd _).1, (wrap_bd _).2, row_set HROW.out 2 _, (hbel.setCell (p := ⟨W.heap.size, 2, none⟩) (Nat.le_refl _) _).drew⟩
      case measure => simp [intOf]; omega
    · have hss := set_set
      have R := fun sz h0 h1 => src_new HIN.out HBLK.out hx0 hx1 HROW.out hbel sz h0 h1
      have HR : Hid (∀ sz : Int, 0 ≤ sz → sz ≤ 12 → Src (wr.setCell ⟨W.heap.size, 3, none⟩ (.int .i64 sz)) W.heap.size a len cap zs ∧ Below W.heap.size W (wr.setCell ⟨W.heap.size, 3, none⟩ (.int .i64 sz))) := R
      clear R
      by_cases h12 : (12 : Int) < (len : Int) / 20
      all_goals
        by_cases hlt1 : (k : Int) < (len : Int)
        · have h2 : ¬ (k : Int) < 64 := by omega
          go_wp2
          go_ret
          exact ⟨rfl, HR.out _ (by omega) (by omega)⟩
        · go_wp2
          go_ret
          exact ⟨rfl, HR.out _ (by omega) (by omega)⟩

theorem underI : Tryz.prog.underlying 37 = some (.slice 2) := by kernel_rfl


theorem below_grown {W w w' : World} {g : Nat} (h : Below W.heap.size W w) (hg : w.grownBy w' (some g)) (hb : W.heap.size ≤ g) : Below W.heap.size W w' :=
  h.grown hg h.size (fun k hk => by injection hk with hk; omega)

/-- A text of zeros. -/
theorem zeros_text (W : World) (g n : Nat) (hg : HasRow W g (List.replicate n (.int .u8 0)) 5) :
    (convert 22 9 (.slice (some ⟨g, 0, none⟩) n n)).run Tryz.prog W = .ok (.string ⟨(List.replicate n 0).toArray⟩) W :=
  text_of_row _ _ _ under under8 underS W g n n (List.replicate n 0) [] (by simp) (by simpa [Lib.byteCells] using hg)

/-- A slice that came in reads as it did behind what turns nothing old. -/
theorem row_below {W W' : World} {a : Option Addr} {len cap : Nat} {zs : List Int} (h : IsRow W a len cap zs) (hg : Below W.heap.size W W') : IsRow W' a len cap zs := by
  have hb := row_blk h
  rcases h with h | ⟨x, rfl, k1, k2, k3, k4, k5⟩
  · exact .inl h
  · refine .inr ⟨x, rfl, k1, k2, k3, fun i hi => ?_, k5⟩
    have hx := hb x rfl (by omega)
    have hbk : (x.add i).block = x.block := by unfold Addr.add; split <;> rfl
    rw [hg.cell (by rw [hbk]; exact hx)]
    exact k4 i hi
end Go.Proofs.YtkigmpeanllimaaGreatDoor.Draw

/- A source, and what was there, where only some blocks have turned. -/
namespace Go.Proofs.YtkigmpeanllimaaGreatDoor.Disk
open Go.RowKit Go.Proofs.YtkigmpeanllimaaGreatDoor.Mem Go.Proofs.YtkigmpeanllimaaGreatDoor.Harn Go.Proofs.YtkigmpeanllimaaGreatDoor.Draw

theorem src_only {p : Nat → Prop} {W W' : World} {g : Nat} {a : Option Addr} {len cap : Nat} {zs : List Int} (h : Draw.Src W g a len cap zs) (hg : Only p W W') (hp : ∀ k, k ≤ g → ¬ p k) : Draw.Src W' g a len cap zs :=
  src_below (B := g + 1) h ⟨hg.os, hg.tape, hg.output, hg.size, fun k hk => hg.block k (by have := src_lt h; omega) (hp k (by omega))⟩ (by omega)
theorem only_W {p : Nat → Prop} {W wr wc : World} {g : Nat} (hg : Only (fun b => b = g) W wr) (hA : Only p wr wc) (hp : ∀ k, k < W.heap.size → k ≠ g → ¬ p k) : Only (fun b => b = g) W wc :=
  ⟨hA.os.trans hg.os, hA.tape.trans hg.tape, hA.output.trans hg.output, Nat.le_trans hg.size hA.size, fun k hk hn => (hA.block k (Nat.lt_of_lt_of_le hk hg.size) (hp k hk hn)).trans (hg.block k hk hn)⟩

end Go.Proofs.YtkigmpeanllimaaGreatDoor.Disk

/- 'append(b, s...)' of a text to bytes of the call's own, and the text of these. -/
namespace Go.Proofs.YtkigmpeanllimaaGreatDoor.Disk
open Go.RowKit Go.Proofs.YtkigmpeanllimaaGreatDoor.Mem

theorem infoB : (Tryz.prog.info? 5).map (fun i => (i.zero, i.size, i.bytes)) = some (some (.int .u8 0), 1, 1) := by kernel_rfl
theorem underB : Tryz.prog.underlying 22 = some (.slice 5) := by kernel_rfl
theorem underTx : Tryz.prog.underlying 9 = some .string := by kernel_rfl
theorem underU8 : Tryz.prog.underlying 5 = some (.int .u8) := by kernel_rfl
theorem ownB_shape {W : World} {base : Nat} {e : TypeId} {v : Value} {l : List UInt8} (h : OwnsB W base e v l) (hv : v ≠ .slice none 0 0) : ∃ g cap, v = .slice (some ⟨g, 0, none⟩) l.length cap ∧ base ≤ g ∧ g < W.heap.size := by
  have hlt := World.ownsRow.lt h
  rcases h.2 with ⟨h0, _⟩ | ⟨g, cap, cur, rfl, _⟩
  · exact absurd h0 hv
  · exact ⟨g, cap, rfl, hlt g rfl⟩
theorem ownB_same {W W' : World} {base B : Nat} {e : TypeId} {v : Value} {l : List UInt8} (h : OwnsB W base e v l) (hb : ∀ g, v.ownBlock = some g → W'.heap[g]? = W.heap[g]?) (hB : B ≤ base) : OwnsB W' B e v l := by
  obtain ⟨h1, h2⟩ := h
  refine ⟨h1, ?_⟩
  rcases h2 with ⟨rfl, h2⟩ | ⟨g, cap, cur, rfl, e2, e3, e4⟩
  · exact .inl ⟨rfl, h2⟩
  · exact .inr ⟨g, cap, cur, rfl, by omega, (hb g rfl).trans e3, e4⟩
theorem ownB_below {W W' : World} {base : Nat} {e : TypeId} {v : Value} {l : List UInt8} (h : OwnsB W base e v l) (hb : Below W.heap.size W W') : OwnsB W' base e v l := ownB_same h (fun g hg => hb.block g (World.ownsRow.lt h g hg).2) (Nat.le_refl _)
/-- 'string(b)' of such a slice. -/
theorem ownB_text {W : World} {base : Nat} {v : Value} {l : List UInt8} (h : OwnsB W base 5 v l) (hv : v ≠ .slice none 0 0) : (convert 22 9 v).run Tryz.prog W = .ok (.string ⟨l.toArray⟩) W := by
  have hc := fun g hg => World.ownsRow.cells h (g := g) hg
  rcases h.2 with ⟨h0, _⟩ | ⟨g, cap, cur, rfl, _⟩
  · exact absurd h0 hv
  · refine run_convert_bytes_back W 22 9 5 _ cap l underB underU8 underTx ?_
    intro j hj
    refine hc g rfl j _ ?_
    simp [Lib.byteCells, hj]
theorem wp_app_text {w : World} {ops : Array Oper} {rest : List Oper} {o : Oper} {a : Act} {Q : Exit → Act → World → Prop} (hgd : o.guard = none) (sl x : Operand)
    (ho : o.op = .call { callee := .builtin .append, args := #[sl, x], argTypes := #[22, 9] }) (base : Nat) (v : Value) (l : List UInt8) (s : ByteArray) (hs : a.eval sl = v) (hx : a.eval x = .string s)
    (hown : OwnsB w base 5 v l) (hv : v ≠ .slice none 0 0) (hn : l.length + s.size ≤ 1000000) (hbase : base ≤ w.heap.size)
    (h : ∀ v' w', OwnsB w' base 5 v' (l ++ s.data.toList) → v' ≠ .slice none 0 0 → Below base w w' → (∀ k, k < w.heap.size → some k ≠ v.ownBlock → w'.heap[k]? = w.heap[k]?) → w.heap.size ≤ w'.heap.size → wpList Tryz.prog ops Q rest (a.put o.dst v') w') : wpList Tryz.prog ops Q (o :: rest) a w := by
  obtain ⟨i, hi, hz0, hz1, hz2⟩ := info_parts infoB
  refine Lib.wpList_append_own_string w hgd sl x _ _ ho base 5 i underB underTx hi hz0 hz1 hz2 v l.length (Lib.byteCells l) hs hown s hx (by unfold maxLen; omega) (by omega) hbase ?_
  intro v' w' h1 h2 h3
  refine h v' w' ?_ (fun e => hv (h3.1 e).1) ?_ (fun k hk hne => h2.block k hk hne) h2.size
  · unfold OwnsB
    have e1 : (l ++ s.data.toList).length = l.length + s.size := by rw [List.length_append]; rfl
    have e2 : Lib.byteCells (l ++ s.data.toList) = Lib.byteCells l ++ Lib.strCells s := by simp [Lib.byteCells, Lib.strCells]
    rw [e1, e2]
    exact h1
  · exact (Below.refl base w).grown h2 hbase (fun k hk => (World.ownsRow.lt hown k hk).1)
/-- A piece of a text. -/
theorem slice_text (tx : ByteArray) (a b : Nat) (ha : a ≤ b) (hb : b ≤ tx.size) (i j : Int) (hi : i = a) (hj : j = b) (W : World) : (Instr.slice 9 (.string tx) (some (.int .i64 i)) (some (.int .i64 j)) none).run Tryz.prog W = .ok (.string (tx.extract a b)) W := by
  subst hi hj
  simp [Instr.slice, Instr.sliceBounds, run_underlying underTx, go_sem, ha, hb]
end Go.Proofs.YtkigmpeanllimaaGreatDoor.Disk

/- A text that is spoiled at a drawn place. -/
namespace Go.Proofs.YtkigmpeanllimaaGreatDoor.Draw
open Go.RowKit Go.Proofs.YtkigmpeanllimaaGreatDoor.Mem Go.Proofs.YtkigmpeanllimaaGreatDoor.Disk

abbrev ills : ByteArray := ⟨#[32, 10, 48, 97, 45, 110, 44, 58, 93, 255, 40, 120, 126, 49, 128, 225, 59]⟩
theorem idx17 (i : Nat) (hi : i < 17) : ∃ c : UInt8, ∀ W, (Instr.index 9 (.string ills) (.int .i64 (i : Int))).run Tryz.prog W = .ok (.int .u8 (c.toNat : Nat)) W := by
  match i, hi with
  | 0, _ => exact ⟨32, fun W => by kernel_rfl⟩
  | 1, _ => exact ⟨10, fun W => by kernel_rfl⟩
  | 2, _ => exact ⟨48, fun W => by kernel_rfl⟩
  | 3, _ => exact ⟨97, fun W => by kernel_rfl⟩
  | 4, _ => exact ⟨45, fun W => by kernel_rfl⟩
  | 5, _ => exact ⟨110, fun W => by kernel_rfl⟩
  | 6, _ => exact ⟨44, fun W => by kernel_rfl⟩
  | 7, _ => exact ⟨58, fun W => by kernel_rfl⟩
  | 8, _ => exact ⟨93, fun W => by kernel_rfl⟩
  | 9, _ => exact ⟨255, fun W => by kernel_rfl⟩
  | 10, _ => exact ⟨40, fun W => by kernel_rfl⟩
  | 11, _ => exact ⟨120, fun W => by kernel_rfl⟩
  | 12, _ => exact ⟨126, fun W => by kernel_rfl⟩
  | 13, _ => exact ⟨49, fun W => by kernel_rfl⟩
  | 14, _ => exact ⟨128, fun W => by kernel_rfl⟩
  | 15, _ => exact ⟨225, fun W => by kernel_rfl⟩
  | 16, _ => exact ⟨59, fun W => by kernel_rfl⟩
  | n + 17, h => exact absurd h (by omega)
theorem slice_to (tx : ByteArray) (b : Nat) (hb : b ≤ tx.size) (j : Int) (hj : j = b) (W : World) : (Instr.slice 9 (.string tx) none (some (.int .i64 j)) none).run Tryz.prog W = .ok (.string (tx.extract 0 b)) W := by
  subst hj
  simp [Instr.slice, Instr.sliceBounds, run_underlying underTx, go_sem, hb]
theorem slice_from (tx : ByteArray) (b : Nat) (hb : b ≤ tx.size) (j : Int) (hj : j = b) (W : World) : (Instr.slice 9 (.string tx) (some (.int .i64 j)) none none).run Tryz.prog W = .ok (.string (tx.extract b tx.size)) W := by
  subst hj
  simp [Instr.slice, Instr.sliceBounds, run_underlying underTx, go_sem, hb]

set_option maxRecDepth 100000 in
set_option maxHeartbeats 2000000 in
theorem spoil_any (W : World) (g : Nat) (a : Option Addr) (len cap : Nat) (zs : List Int) (t : ByteArray) (h : Src W g a len cap zs) (ht : t.size ≤ 1000) :
    Calls Tryz.prog 55 #[.pointer (some ⟨g, 0, none⟩), .string t] W fun e W' => ∃ t2 : ByteArray, e = .returned (.string t2) ∧ t2.size ≤ t.size + 1 ∧ Src W' g a len cap zs ∧ W.grownBy W' (some g) := by
  have HN : Hid (∀ (m : Int) W, Src W g a len cap zs → m ≤ 10000 → Calls Tryz.prog 23 #[.pointer (some ⟨g, 0, none⟩), .int .i64 m] W fun e W' => ∃ v : Int, e = .returned (.int .i64 v) ∧ Num m v ∧ Src W' g a len cap zs ∧ W.grownBy W' (some g)) := fun m W h hm => n_any W g a len cap zs m h (by omega)
  have HO : Hid (∀ (m : Int) W, Src W g a len cap zs → m ≤ 10000 → Calls Tryz.prog 24 #[.pointer (some ⟨g, 0, none⟩), .int .i64 m] W fun e W' => ∃ b : Bool, e = .returned (.bool b) ∧ Src W' g a len cap zs ∧ W.grownBy W' (some g)) := fun m W h hm => one_any W g a len cap zs m h (by omega)
  have HS : Hid (Src W g a len cap zs) := h
  clear h
  go_enter Tryz.func55, Tryz.ntmps55
  go_wp2_with fail
  refine (HN.out _ _ HS.out (by omega)).mono ?_
  rintro e w1 ⟨v, rfl, hv, hs1, hg1⟩
  obtain ⟨k, rfl⟩ := Int.eq_ofNat_of_zero_le hv.1
  have hk : k ≤ t.size := by
    by_cases h2 : 2 ≤ (t.size : Int) + 1
    · have := hv.2.1 h2; omega
    · have := hv.2.2 (by omega); omega
  have HS1 : Hid _ := hs1
  have HG1 : Hid _ := hg1
  clear hv hs1 hg1 HS
  go_wp2_with fail
  refine (HN.out _ _ HS1.out (by omega)).mono ?_
  rintro e w2 ⟨v, rfl, hv, hs2, hg2⟩
  obtain ⟨i, rfl⟩ := Int.eq_ofNat_of_zero_le hv.1
  have hi : (i : Int) < 17 := hv.2.1 (by omega)
  obtain ⟨c, hix⟩ := idx17 i (by omega)
  have HS2 : Hid _ := hs2
  have HG2 : Hid _ := Lib.grownBy_trans HG1.out hg2
  have hgl := src_lt hs2
  clear hv hs2 hg2 HS1 HG1
  obtain ⟨W3, hW3⟩ : ∃ W3, W3 = w2.alloc (.cells #[.int .u8 (c.toNat : Nat)] 5) := ⟨_, rfl⟩
  have hcv : (convert 22 9 (.slice (some ⟨w2.heap.size, 0, none⟩) 1 1)).run Tryz.prog (w2.alloc (.cells #[.int .u8 (c.toNat : Nat)] 5)) = .ok (.string ⟨#[c]⟩) (w2.alloc (.cells #[.int .u8 (c.toNat : Nat)] 5)) := run_convert_bytes_back _ _ _ 5 _ 1 [c] under under8 underS (fun j hj => by
    match j, hj with
    | 0, _ => simp [Addr.add])
  have HS3 : Hid (Src W3 g a len cap zs) := by rw [hW3]; exact src_below HS2.out ((Below.refl _ _).alloc (Nat.le_refl _) _) hgl
  have HG3 : Hid (W.grownBy W3 (some g)) := by rw [hW3]; exact Lib.grownBy_trans HG2.out (World.grownBy_alloc _ _ _)
  obtain ⟨cb, hcb⟩ : ∃ cb : ByteArray, (⟨#[c]⟩ : ByteArray) = cb := ⟨_, rfl⟩
  have hcz : cb.size = 1 := by rw [← hcb]; rfl
  rw [hcb] at hcv
  clear hcb
  have hto := slice_to t k hk (k : Int) rfl
  have hfr := slice_from t k hk (k : Int) rfl
  obtain ⟨ta, hta⟩ : ∃ ta, t.extract 0 k = ta := ⟨_, rfl⟩
  obtain ⟨tb, htb⟩ : ∃ tb, t.extract k t.size = tb := ⟨_, rfl⟩
  have hza : ta.size = k := by rw [← hta]; simp; omega
  have hzb : tb.size = t.size - k := by rw [← htb]; simp
  rw [hta] at hto
  rw [htb] at hfr
  clear hta htb
  have HZA : Hid (ta.size = k) := hza
  have HZB : Hid (tb.size = t.size - k) := hzb
  have HZC : Hid (cb.size = 1) := hcz
  have hn1 : ¬ 9223372036854775807 < ta.size + cb.size := by omega
  have hn2 : ¬ 9223372036854775807 < (ta ++ cb).size + tb.size := by rw [ByteArray.size_append]; omega
  have HR4 : Hid ((ta ++ cb ++ tb).size ≤ t.size + 1) := by unfold Hid; rw [ByteArray.size_append, ByteArray.size_append]; omega
  by_cases hkt : k = t.size
  · subst hkt
    have hm1 : ¬ 9223372036854775807 < t.size + cb.size := by omega
    have hm2 : ¬ 9223372036854775807 < t.size + cb.size + tb.size := by omega
    have hto2 : ∀ W, (Instr.slice 9 (.string t) none (some (.int .i64 (t.size : Int))) none).run Tryz.prog W = .ok (.string t) W := fun W => by have h := slice_to t t.size (Nat.le_refl _) _ rfl W; rw [show t.extract 0 t.size = t by simp] at h; exact h
    clear hza hzb hcz hto
    go_wp2_with fail
    rw [← hW3]
    clear hW3
    go_region
    go_wp2_with fail
    go_ret
    exact ⟨_, rfl, by have h1 := HZB.out; have h2 := HZC.out; show ByteArray.size (t ++ cb ++ tb) ≤ _; rw [ByteArray.size_append, ByteArray.size_append]; omega, HS3.out, grown_drew HG3.out⟩
  · have hkb : ((k : Int) == (t.size : Int)) = false := by simp; omega
    have hk1 : k + 1 ≤ t.size := by omega
    have hfr2 := slice_from t (k + 1) hk1 ((k : Int) + 1) (by omega)
    obtain ⟨td, htd⟩ : ∃ td, t.extract (k + 1) t.size = td := ⟨_, rfl⟩
    have hzd : td.size = t.size - (k + 1) := by rw [← htd]; simp
    rw [htd] at hfr2
    clear htd
    have HZD : Hid (td.size = t.size - (k + 1)) := hzd
    have hm2 : ¬ 9223372036854775807 < ta.size + cb.size + tb.size := by omega
    have hm3 : ¬ 9223372036854775807 < ta.size + td.size := by omega
    have hm4 : ¬ 9223372036854775807 < ta.size + cb.size + td.size := by omega
    clear hza hzb hcz hzd
    go_wp2_with fail
    rw [← hW3]
    clear hW3
    refine (HO.out _ _ HS3.out (by omega)).mono ?_
    rintro e w4 ⟨b, rfl, hs4, hg4⟩
    have HS4 : Hid _ := hs4
    have HG4 : Hid _ := Lib.grownBy_trans HG3.out hg4
    clear hs4 hg4
    cases b
    · go_wp2_with fail
      refine (HO.out _ _ HS4.out (by omega)).mono ?_
      rintro e w5 ⟨b, rfl, hs5, hg5⟩
      have HS5 : Hid _ := hs5
      have HG5 : Hid _ := Lib.grownBy_trans HG4.out hg5
      clear hs5 hg5
      cases b
      · go_wp2_with fail
        go_region
        go_wp2_with fail
        go_ret
        exact ⟨_, rfl, by have h1 := HZA.out; have h2 := HZC.out; have h3 := HZD.out; show ByteArray.size (ta ++ cb ++ td) ≤ _; rw [ByteArray.size_append, ByteArray.size_append]; omega, HS5.out, grown_drew HG5.out⟩
      · go_wp2_with fail
        go_region
        go_wp2_with fail
        go_ret
        exact ⟨_, rfl, by have h1 := HZA.out; have h3 := HZD.out; show ByteArray.size (ta ++ td) ≤ _; rw [ByteArray.size_append]; omega, HS5.out, grown_drew HG5.out⟩
    · go_wp2_with fail
      go_region
      go_wp2_with fail
      go_ret
      exact ⟨_, rfl, by have h1 := HZA.out; have h2 := HZC.out; have h3 := HZB.out; show ByteArray.size (ta ++ cb ++ tb) ≤ _; rw [ByteArray.size_append, ByteArray.size_append]; omega, HS4.out, grown_drew HG4.out⟩
end Go.Proofs.YtkigmpeanllimaaGreatDoor.Draw

/- What the program's GetNum answers, by contracts. -/
namespace Go.Proofs.YtkigmpeanllimaaGreatDoor.GetNum
open Go.RowKit Go.Proofs.YtkigmpeanllimaaGreatDoor.Scope

/-- What the variable errors.errorType holds. -/
def Laid (w : World) : Prop := w.cell? ⟨6, 0, none⟩ = some (.iface 120 (.agg #[.pointer (some ⟨7, 51, none⟩)]))

theorem laid_pos {w : World} (h : Laid w) : 6 < w.heap.size := World.block_lt_of_cell? w ⟨6, 0, none⟩ h

theorem laid_below {w w' : World} (h : Laid w) (hb : Below w.heap.size w w') : Laid w' := by
  have := hb.cell (p := ⟨6, 0, none⟩) (laid_pos h)
  unfold Laid at *
  rw [this]; exact h

theorem bcell {W w1 : World} (hb : Below W.heap.size W w1) : (∀ b o, b < W.heap.size → w1.cell? ⟨b, o, none⟩ = W.cell? ⟨b, o, none⟩) ∧ (∀ b o, b < W.heap.size → w1.frozen? ⟨b, o, none⟩ = W.frozen? ⟨b, o, none⟩) :=
  ⟨fun b o h => hb.cell (p := ⟨b, o, none⟩) h, fun b o h => hb.frozen (p := ⟨b, o, none⟩) h⟩

theorem bstep {w a b : World} (h : Below w.heap.size w a) (k : Below a.heap.size a b) : Below w.heap.size w b := h.trans (k.mono h.size)
theorem balloc {w a : World} (h : Below w.heap.size w a) (o : Obj) : Below w.heap.size w (a.alloc o) := h.alloc h.size o

theorem xor_ones (a : Nat) (h : a < 18446744073709551616) : 18446744073709551615 ^^^ a = 18446744073709551615 - a := by
  have h1 : (BitVec.allOnes 64 ^^^ BitVec.ofNat 64 a).toNat = 18446744073709551615 ^^^ a := by
    rw [BitVec.toNat_xor, BitVec.toNat_allOnes, BitVec.toNat_ofNat, Nat.mod_eq_of_lt (by simpa using h)]
  rw [← h1, BitVec.allOnes_xor, BitVec.toNat_not, BitVec.toNat_ofNat, Nat.mod_eq_of_lt (by simpa using h)]

theorem max64 : IntKind.u64.max = 18446744073709551615 := by simp [IntKind.max, IntKind.bits, IntKind.signed]

theorem unfold_bits {u : Nat} (hu : (u : Int) ≤ 18446744073709551615) (h : u % 2 = 1) : wrap64 (bits .xor .u64 IntKind.u64.max ((u : Int) / 2)) = unfoldI u := by
  have h1 := u64_xor_nat 18446744073709551615 (u / 2) (by decide) (by omega)
  rw [xor_ones _ (by omega)] at h1
  have e : ((u : Int) / 2) = ((u / 2 : Nat) : Int) := by omega
  rw [max64, e]
  refine (congrArg wrap64 h1).trans ?_
  unfold wrap64 unfoldI
  rw [if_pos h]
  omega

theorem and1 {u : Nat} (hu : (u : Int) ≤ 18446744073709551615) : bits .and .u64 (u : Int) 1 = ((u % 2 : Nat) : Int) := by
  have := u64_and_nat u 1 (by omega) (by decide)
  rw [Nat.and_one_is_mod] at this
  exact this

theorem ret_int {k : IntKind} {a b : Int} (h : a = b) : Ending.returned (.int k a) = .returned (.int k b) := by rw [h]

set_option maxRecDepth 100000 in
theorem unfold_any (u : Nat) (w : World) (hu : (u : Int) ≤ 18446744073709551615) :
    Calls Tryz.prog 91 #[.int .u64 u] w fun e w' => e = .returned (.int .i64 (unfoldI u)) ∧ w = w' := by
  by_cases h : u % 2 = 1
  · have ht : (bits .and .u64 (u : Int) 1 == 1) = true := by rw [and1 hu, h]; rfl
    have HB : Hid (wrap64 (bits .xor .u64 IntKind.u64.max ((u : Int) / 2)) = unfoldI u) := unfold_bits hu h
    clear h
    go_enter Tryz.func91, Tryz.ntmps91
    go_wp2
    go_ret
    exact ⟨ret_int HB.out, rfl⟩
  · have ht : (bits .and .u64 (u : Int) 1 == 1) = false := by rw [and1 hu, beq_eq_false_iff_ne]; omega
    have HB : Hid (((u : Int) / 2) = unfoldI u) := unfold_even h
    clear h
    go_enter Tryz.func91, Tryz.ntmps91
    go_wp2
    go_ret
    exact ⟨ret_int HB.out, rfl⟩

theorem implGetNum_big (s : ByteArray) (a : Int) (w : World) (hs : 8000 < (s.size : Int)) :
    Calls Tryz.prog 85 #[.string s, .int .i64 a] w fun e w' => e = .returned (.agg #[.int .i64 0, .int .i64 0, .int .i64 2]) ∧ Below w.heap.size w w' := by
  go_enter Tryz.func85, Tryz.ntmps85
  go_wp2
  exact bodyPost_ret (v := .agg #[.int .i64 0, .int .i64 0, .int .i64 2]) (by simp [results, Tryz.results85, go_sem]) rfl ⟨rfl, (Below.refl _ _).alloc (Nat.le_refl _) _⟩

set_option maxRecDepth 100000 in
set_option maxHeartbeats 1000000 in
theorem implGetNum_code (s : ByteArray) (a : Int) (w : World) (cd : Nat) (hs : (s.size : Int) ≤ 8000) (hL : Laid w)
    (K : ∀ w, Calls Tryz.prog 89 #[.string s, .int .i64 a] w fun e w' => e = .returned (.tuple #[.int .u64 0, .int .i64 0, .iface 138 (.agg #[.int .i64 (cd : Nat)])]) ∧ Below w.heap.size w w') :
    Calls Tryz.prog 85 #[.string s, .int .i64 a] w fun e w' => e = .returned (.agg #[.int .i64 0, .int .i64 0, .int .i64 (cd : Nat)]) ∧ Below w.heap.size w w' := by
  have HK : Hid _ := K
  have HL : Hid (Laid w) := hL
  clear K hL
  go_enter Tryz.func85, Tryz.ntmps85
  go_wp2_with (first | (go_at_call 89; refine (HK.out _).mono ?_; rintro e w1 ⟨rfl, hb1⟩; obtain ⟨hcc, hff⟩ := bcell hb1; have hsz := hb1.size; simp at hcc hff hsz))
  have hL1 : Laid w1 := laid_below (laid_below HL.out ((Below.refl _ _).alloc (Nat.le_refl _) _)) hb1
  have hlt : w.heap.size < w1.heap.size := by omega
  refine (AsFault.codeOf_any cd w1 hL1).mono ?_
  rintro e w2 ⟨rfl, hb2⟩
  obtain ⟨hcc2, hff2⟩ := bcell hb2
  clear hL1
  go_wp2
  refine bodyPost_ret (v := .agg #[.int .i64 0, .int .i64 0, .int .i64 (cd : Nat)]) ?_ rfl ⟨rfl, ?_⟩
  · simp [results, Tryz.results85, go_sem, hcc, hcc2, hlt]
  · have hB1 : Below w.heap.size w w2 := bstep (bstep (balloc (Below.refl _ _) _) hb1) hb2
    exact ((hB1.setCell (Nat.le_refl _) _).setCell (Nat.le_refl _) _).setCell (Nat.le_refl _) _

set_option maxRecDepth 100000 in
set_option maxHeartbeats 1000000 in
theorem implGetNum_ok (s : ByteArray) (a : Int) (w : World) (y p : Nat) (hs : (s.size : Int) ≤ 8000) (hy : (y : Int) ≤ 18446744073709551615)
    (K : ∀ w, Calls Tryz.prog 89 #[.string s, .int .i64 a] w fun e w' => e = .returned (.tuple #[.int .u64 (y : Nat), .int .i64 (p : Nat), .nilIface]) ∧ Below w.heap.size w w') :
    Calls Tryz.prog 85 #[.string s, .int .i64 a] w fun e w' => e = .returned (.agg #[.int .i64 (unfoldI y), .int .i64 (p : Nat), .int .i64 0]) ∧ Below w.heap.size w w' := by
  have HK : Hid _ := K
  clear K
  go_enter Tryz.func85, Tryz.ntmps85
  go_wp2_with (first | (go_at_call 89; refine (HK.out _).mono ?_; rintro e w1 ⟨rfl, hb1⟩; obtain ⟨hcc, hff⟩ := bcell hb1; have hsz := hb1.size; simp at hcc hff hsz) | (go_at_call 91; refine (unfold_any y _ hy).mono ?_; rintro e w2 ⟨rfl, rfl⟩))
  refine bodyPost_ret (v := .agg #[.int .i64 (unfoldI y), .int .i64 (p : Nat), .int .i64 0]) ?_ rfl ⟨rfl, ?_⟩
  · simp [results, Tryz.results85, go_sem, hcc]
  · have hB1 : Below w.heap.size w w1 := bstep (balloc (Below.refl _ _) _) hb1
    exact ((hB1.setCell (Nat.le_refl _) _).setCell (Nat.le_refl _) _).setCell (Nat.le_refl _) _

/-- What GetNum answers, of whatever text and place. -/
structure Ans (s : ByteArray) (n p c : Int) : Prop where
  n1 : -9223372036854775808 ≤ n
  n2 : n ≤ 9223372036854775807
  ok : c = 0 → 0 ≤ p ∧ p ≤ s.size ∧ (s.size : Int) ≤ 8000

end Go.Proofs.YtkigmpeanllimaaGreatDoor.GetNum

/- The code that an error of the package tells. -/
namespace Go.Proofs.YtkigmpeanllimaaGreatDoor.Sent
open Go.RowKit

/-- The package's errors on an area. -/
def sentL : List Nat := [0, 1, 2, 3, 4, 5]
/-- The code of each, OK of none. -/
def codeE : Option Nat → Int
  | none => 0
  | some 0 => 1
  | some 1 => 4
  | some 2 => 5
  | some 3 => 5
  | some 4 => 3
  | some 5 => 9
  | some _ => 0
theorem is_of (A : Nat → Addr) (x : Option Nat) (g : Nat) (b : Bool) (w : World) (h : SentsLaid w A sentL) (hx : ∀ k, x = some k → k ∈ sentL) (hg : g ∈ sentL) (hb : decide (x = some g) = b) :
    Calls Tryz.prog 59 #[errV A x, .iface 157 (.pointer (some (A g)))] w fun e w' => e = .returned (.bool b) ∧ w = w' := by
  subst hb
  exact errIs_any A sentL x g w h hx hg

set_option maxRecDepth 100000 in
set_option maxHeartbeats 2000000 in
theorem areaCode_any (A : Nat → Addr) (x : Option Nat) (w : World) (h : SentsLaid w A sentL) (hx : ∀ k, x = some k → k ∈ sentL) :
    Calls Tryz.prog 27 #[errV A x] w fun e w' => e = .returned (.int .i64 (codeE x)) ∧ w = w' := by
  have v0 := h.v 0 (by simp [sentL])
  have v1 := h.v 1 (by simp [sentL])
  have v2 := h.v 2 (by simp [sentL])
  have v3 := h.v 3 (by simp [sentL])
  have v4 := h.v 4 (by simp [sentL])
  have v5 := h.v 5 (by simp [sentL])
  have HL : Hid (SentsLaid w A sentL) := h
  have HX : Hid (∀ k, x = some k → k ∈ sentL) := hx
  rcases x with _ | k
  · have K0 : Hid (Calls Tryz.prog 59 #[errV A (none), .iface 157 (.pointer (some (A 0)))] w fun e w' => e = .returned (.bool false) ∧ w = w') := is_of A _ 0 false w HL.out HX.out (by simp [sentL]) (by decide)
    have K1 : Hid (Calls Tryz.prog 59 #[errV A (none), .iface 157 (.pointer (some (A 1)))] w fun e w' => e = .returned (.bool false) ∧ w = w') := is_of A _ 1 false w HL.out HX.out (by simp [sentL]) (by decide)
    have K2 : Hid (Calls Tryz.prog 59 #[errV A (none), .iface 157 (.pointer (some (A 2)))] w fun e w' => e = .returned (.bool false) ∧ w = w') := is_of A _ 2 false w HL.out HX.out (by simp [sentL]) (by decide)
    have K3 : Hid (Calls Tryz.prog 59 #[errV A (none), .iface 157 (.pointer (some (A 3)))] w fun e w' => e = .returned (.bool false) ∧ w = w') := is_of A _ 3 false w HL.out HX.out (by simp [sentL]) (by decide)
    have K4 : Hid (Calls Tryz.prog 59 #[errV A (none), .iface 157 (.pointer (some (A 4)))] w fun e w' => e = .returned (.bool false) ∧ w = w') := is_of A _ 4 false w HL.out HX.out (by simp [sentL]) (by decide)
    have K5 : Hid (Calls Tryz.prog 59 #[errV A (none), .iface 157 (.pointer (some (A 5)))] w fun e w' => e = .returned (.bool false) ∧ w = w') := is_of A _ 5 false w HL.out HX.out (by simp [sentL]) (by decide)
    generalize errV A (none) = ev at *
    clear h hx HX
    go_enter Tryz.func27, Tryz.ntmps27
    go_wp2_with (first
      | (go_at_call_of 59 (Value.pointer (some (A 0))); refine K0.out.mono ?_; rintro e w1 ⟨rfl, rfl⟩)
      | (go_at_call_of 59 (Value.pointer (some (A 1))); refine K1.out.mono ?_; rintro e w1 ⟨rfl, rfl⟩)
      | (go_at_call_of 59 (Value.pointer (some (A 2))); refine K2.out.mono ?_; rintro e w1 ⟨rfl, rfl⟩)
      | (go_at_call_of 59 (Value.pointer (some (A 3))); refine K3.out.mono ?_; rintro e w1 ⟨rfl, rfl⟩)
      | (go_at_call_of 59 (Value.pointer (some (A 4))); refine K4.out.mono ?_; rintro e w1 ⟨rfl, rfl⟩)
      | (go_at_call_of 59 (Value.pointer (some (A 5))); refine K5.out.mono ?_; rintro e w1 ⟨rfl, rfl⟩))
    go_ret
    exact ⟨rfl, rfl⟩
  · have hk := hx k rfl
    simp only [sentL, List.mem_cons, List.not_mem_nil, or_false] at hk
    rcases hk with rfl | rfl | rfl | rfl | rfl | rfl
    · have K0 : Hid (Calls Tryz.prog 59 #[errV A (some 0), .iface 157 (.pointer (some (A 0)))] w fun e w' => e = .returned (.bool true) ∧ w = w') := is_of A _ 0 true w HL.out HX.out (by simp [sentL]) (by decide)
      have K1 : Hid (Calls Tryz.prog 59 #[errV A (some 0), .iface 157 (.pointer (some (A 1)))] w fun e w' => e = .returned (.bool false) ∧ w = w') := is_of A _ 1 false w HL.out HX.out (by simp [sentL]) (by decide)
      have K2 : Hid (Calls Tryz.prog 59 #[errV A (some 0), .iface 157 (.pointer (some (A 2)))] w fun e w' => e = .returned (.bool false) ∧ w = w') := is_of A _ 2 false w HL.out HX.out (by simp [sentL]) (by decide)
      have K3 : Hid (Calls Tryz.prog 59 #[errV A (some 0), .iface 157 (.pointer (some (A 3)))] w fun e w' => e = .returned (.bool false) ∧ w = w') := is_of A _ 3 false w HL.out HX.out (by simp [sentL]) (by decide)
      have K4 : Hid (Calls Tryz.prog 59 #[errV A (some 0), .iface 157 (.pointer (some (A 4)))] w fun e w' => e = .returned (.bool false) ∧ w = w') := is_of A _ 4 false w HL.out HX.out (by simp [sentL]) (by decide)
      have K5 : Hid (Calls Tryz.prog 59 #[errV A (some 0), .iface 157 (.pointer (some (A 5)))] w fun e w' => e = .returned (.bool false) ∧ w = w') := is_of A _ 5 false w HL.out HX.out (by simp [sentL]) (by decide)
      generalize errV A (some 0) = ev at *
      clear h hx HX
      go_enter Tryz.func27, Tryz.ntmps27
      go_wp2_with (first
        | (go_at_call_of 59 (Value.pointer (some (A 0))); refine K0.out.mono ?_; rintro e w1 ⟨rfl, rfl⟩)
        | (go_at_call_of 59 (Value.pointer (some (A 1))); refine K1.out.mono ?_; rintro e w1 ⟨rfl, rfl⟩)
        | (go_at_call_of 59 (Value.pointer (some (A 2))); refine K2.out.mono ?_; rintro e w1 ⟨rfl, rfl⟩)
        | (go_at_call_of 59 (Value.pointer (some (A 3))); refine K3.out.mono ?_; rintro e w1 ⟨rfl, rfl⟩)
        | (go_at_call_of 59 (Value.pointer (some (A 4))); refine K4.out.mono ?_; rintro e w1 ⟨rfl, rfl⟩)
        | (go_at_call_of 59 (Value.pointer (some (A 5))); refine K5.out.mono ?_; rintro e w1 ⟨rfl, rfl⟩))
      go_ret
      exact ⟨rfl, rfl⟩
    · have K0 : Hid (Calls Tryz.prog 59 #[errV A (some 1), .iface 157 (.pointer (some (A 0)))] w fun e w' => e = .returned (.bool false) ∧ w = w') := is_of A _ 0 false w HL.out HX.out (by simp [sentL]) (by decide)
      have K1 : Hid (Calls Tryz.prog 59 #[errV A (some 1), .iface 157 (.pointer (some (A 1)))] w fun e w' => e = .returned (.bool true) ∧ w = w') := is_of A _ 1 true w HL.out HX.out (by simp [sentL]) (by decide)
      have K2 : Hid (Calls Tryz.prog 59 #[errV A (some 1), .iface 157 (.pointer (some (A 2)))] w fun e w' => e = .returned (.bool false) ∧ w = w') := is_of A _ 2 false w HL.out HX.out (by simp [sentL]) (by decide)
      have K3 : Hid (Calls Tryz.prog 59 #[errV A (some 1), .iface 157 (.pointer (some (A 3)))] w fun e w' => e = .returned (.bool false) ∧ w = w') := is_of A _ 3 false w HL.out HX.out (by simp [sentL]) (by decide)
      have K4 : Hid (Calls Tryz.prog 59 #[errV A (some 1), .iface 157 (.pointer (some (A 4)))] w fun e w' => e = .returned (.bool false) ∧ w = w') := is_of A _ 4 false w HL.out HX.out (by simp [sentL]) (by decide)
      have K5 : Hid (Calls Tryz.prog 59 #[errV A (some 1), .iface 157 (.pointer (some (A 5)))] w fun e w' => e = .returned (.bool false) ∧ w = w') := is_of A _ 5 false w HL.out HX.out (by simp [sentL]) (by decide)
      generalize errV A (some 1) = ev at *
      clear h hx HX
      go_enter Tryz.func27, Tryz.ntmps27
      go_wp2_with (first
        | (go_at_call_of 59 (Value.pointer (some (A 0))); refine K0.out.mono ?_; rintro e w1 ⟨rfl, rfl⟩)
        | (go_at_call_of 59 (Value.pointer (some (A 1))); refine K1.out.mono ?_; rintro e w1 ⟨rfl, rfl⟩)
        | (go_at_call_of 59 (Value.pointer (some (A 2))); refine K2.out.mono ?_; rintro e w1 ⟨rfl, rfl⟩)
        | (go_at_call_of 59 (Value.pointer (some (A 3))); refine K3.out.mono ?_; rintro e w1 ⟨rfl, rfl⟩)
        | (go_at_call_of 59 (Value.pointer (some (A 4))); refine K4.out.mono ?_; rintro e w1 ⟨rfl, rfl⟩)
        | (go_at_call_of 59 (Value.pointer (some (A 5))); refine K5.out.mono ?_; rintro e w1 ⟨rfl, rfl⟩))
      go_ret
      exact ⟨rfl, rfl⟩
    · have K0 : Hid (Calls Tryz.prog 59 #[errV A (some 2), .iface 157 (.pointer (some (A 0)))] w fun e w' => e = .returned (.bool false) ∧ w = w') := is_of A _ 0 false w HL.out HX.out (by simp [sentL]) (by decide)
      have K1 : Hid (Calls Tryz.prog 59 #[errV A (some 2), .iface 157 (.pointer (some (A 1)))] w fun e w' => e = .returned (.bool false) ∧ w = w') := is_of A _ 1 false w HL.out HX.out (by simp [sentL]) (by decide)
      have K2 : Hid (Calls Tryz.prog 59 #[errV A (some 2), .iface 157 (.pointer (some (A 2)))] w fun e w' => e = .returned (.bool true) ∧ w = w') := is_of A _ 2 true w HL.out HX.out (by simp [sentL]) (by decide)
      have K3 : Hid (Calls Tryz.prog 59 #[errV A (some 2), .iface 157 (.pointer (some (A 3)))] w fun e w' => e = .returned (.bool false) ∧ w = w') := is_of A _ 3 false w HL.out HX.out (by simp [sentL]) (by decide)
      have K4 : Hid (Calls Tryz.prog 59 #[errV A (some 2), .iface 157 (.pointer (some (A 4)))] w fun e w' => e = .returned (.bool false) ∧ w = w') := is_of A _ 4 false w HL.out HX.out (by simp [sentL]) (by decide)
      have K5 : Hid (Calls Tryz.prog 59 #[errV A (some 2), .iface 157 (.pointer (some (A 5)))] w fun e w' => e = .returned (.bool false) ∧ w = w') := is_of A _ 5 false w HL.out HX.out (by simp [sentL]) (by decide)
      generalize errV A (some 2) = ev at *
      clear h hx HX
      go_enter Tryz.func27, Tryz.ntmps27
      go_wp2_with (first
        | (go_at_call_of 59 (Value.pointer (some (A 0))); refine K0.out.mono ?_; rintro e w1 ⟨rfl, rfl⟩)
        | (go_at_call_of 59 (Value.pointer (some (A 1))); refine K1.out.mono ?_; rintro e w1 ⟨rfl, rfl⟩)
        | (go_at_call_of 59 (Value.pointer (some (A 2))); refine K2.out.mono ?_; rintro e w1 ⟨rfl, rfl⟩)
        | (go_at_call_of 59 (Value.pointer (some (A 3))); refine K3.out.mono ?_; rintro e w1 ⟨rfl, rfl⟩)
        | (go_at_call_of 59 (Value.pointer (some (A 4))); refine K4.out.mono ?_; rintro e w1 ⟨rfl, rfl⟩)
        | (go_at_call_of 59 (Value.pointer (some (A 5))); refine K5.out.mono ?_; rintro e w1 ⟨rfl, rfl⟩))
      go_ret
      exact ⟨rfl, rfl⟩
    · have K0 : Hid (Calls Tryz.prog 59 #[errV A (some 3), .iface 157 (.pointer (some (A 0)))] w fun e w' => e = .returned (.bool false) ∧ w = w') := is_of A _ 0 false w HL.out HX.out (by simp [sentL]) (by decide)
      have K1 : Hid (Calls Tryz.prog 59 #[errV A (some 3), .iface 157 (.pointer (some (A 1)))] w fun e w' => e = .returned (.bool false) ∧ w = w') := is_of A _ 1 false w HL.out HX.out (by simp [sentL]) (by decide)
      have K2 : Hid (Calls Tryz.prog 59 #[errV A (some 3), .iface 157 (.pointer (some (A 2)))] w fun e w' => e = .returned (.bool false) ∧ w = w') := is_of A _ 2 false w HL.out HX.out (by simp [sentL]) (by decide)
      have K3 : Hid (Calls Tryz.prog 59 #[errV A (some 3), .iface 157 (.pointer (some (A 3)))] w fun e w' => e = .returned (.bool true) ∧ w = w') := is_of A _ 3 true w HL.out HX.out (by simp [sentL]) (by decide)
      have K4 : Hid (Calls Tryz.prog 59 #[errV A (some 3), .iface 157 (.pointer (some (A 4)))] w fun e w' => e = .returned (.bool false) ∧ w = w') := is_of A _ 4 false w HL.out HX.out (by simp [sentL]) (by decide)
      have K5 : Hid (Calls Tryz.prog 59 #[errV A (some 3), .iface 157 (.pointer (some (A 5)))] w fun e w' => e = .returned (.bool false) ∧ w = w') := is_of A _ 5 false w HL.out HX.out (by simp [sentL]) (by decide)
      generalize errV A (some 3) = ev at *
      clear h hx HX
      go_enter Tryz.func27, Tryz.ntmps27
      go_wp2_with (first
        | (go_at_call_of 59 (Value.pointer (some (A 0))); refine K0.out.mono ?_; rintro e w1 ⟨rfl, rfl⟩)
        | (go_at_call_of 59 (Value.pointer (some (A 1))); refine K1.out.mono ?_; rintro e w1 ⟨rfl, rfl⟩)
        | (go_at_call_of 59 (Value.pointer (some (A 2))); refine K2.out.mono ?_; rintro e w1 ⟨rfl, rfl⟩)
        | (go_at_call_of 59 (Value.pointer (some (A 3))); refine K3.out.mono ?_; rintro e w1 ⟨rfl, rfl⟩)
        | (go_at_call_of 59 (Value.pointer (some (A 4))); refine K4.out.mono ?_; rintro e w1 ⟨rfl, rfl⟩)
        | (go_at_call_of 59 (Value.pointer (some (A 5))); refine K5.out.mono ?_; rintro e w1 ⟨rfl, rfl⟩))
      go_ret
      exact ⟨rfl, rfl⟩
    · have K0 : Hid (Calls Tryz.prog 59 #[errV A (some 4), .iface 157 (.pointer (some (A 0)))] w fun e w' => e = .returned (.bool false) ∧ w = w') := is_of A _ 0 false w HL.out HX.out (by simp [sentL]) (by decide)
      have K1 : Hid (Calls Tryz.prog 59 #[errV A (some 4), .iface 157 (.pointer (some (A 1)))] w fun e w' => e = .returned (.bool false) ∧ w = w') := is_of A _ 1 false w HL.out HX.out (by simp [sentL]) (by decide)
      have K2 : Hid (Calls Tryz.prog 59 #[errV A (some 4), .iface 157 (.pointer (some (A 2)))] w fun e w' => e = .returned (.bool false) ∧ w = w') := is_of A _ 2 false w HL.out HX.out (by simp [sentL]) (by decide)
      have K3 : Hid (Calls Tryz.prog 59 #[errV A (some 4), .iface 157 (.pointer (some (A 3)))] w fun e w' => e = .returned (.bool false) ∧ w = w') := is_of A _ 3 false w HL.out HX.out (by simp [sentL]) (by decide)
      have K4 : Hid (Calls Tryz.prog 59 #[errV A (some 4), .iface 157 (.pointer (some (A 4)))] w fun e w' => e = .returned (.bool true) ∧ w = w') := is_of A _ 4 true w HL.out HX.out (by simp [sentL]) (by decide)
      have K5 : Hid (Calls Tryz.prog 59 #[errV A (some 4), .iface 157 (.pointer (some (A 5)))] w fun e w' => e = .returned (.bool false) ∧ w = w') := is_of A _ 5 false w HL.out HX.out (by simp [sentL]) (by decide)
      generalize errV A (some 4) = ev at *
      clear h hx HX
      go_enter Tryz.func27, Tryz.ntmps27
      go_wp2_with (first
        | (go_at_call_of 59 (Value.pointer (some (A 0))); refine K0.out.mono ?_; rintro e w1 ⟨rfl, rfl⟩)
        | (go_at_call_of 59 (Value.pointer (some (A 1))); refine K1.out.mono ?_; rintro e w1 ⟨rfl, rfl⟩)
        | (go_at_call_of 59 (Value.pointer (some (A 2))); refine K2.out.mono ?_; rintro e w1 ⟨rfl, rfl⟩)
        | (go_at_call_of 59 (Value.pointer (some (A 3))); refine K3.out.mono ?_; rintro e w1 ⟨rfl, rfl⟩)
        | (go_at_call_of 59 (Value.pointer (some (A 4))); refine K4.out.mono ?_; rintro e w1 ⟨rfl, rfl⟩)
        | (go_at_call_of 59 (Value.pointer (some (A 5))); refine K5.out.mono ?_; rintro e w1 ⟨rfl, rfl⟩))
      go_ret
      exact ⟨rfl, rfl⟩
    · have K0 : Hid (Calls Tryz.prog 59 #[errV A (some 5), .iface 157 (.pointer (some (A 0)))] w fun e w' => e = .returned (.bool false) ∧ w = w') := is_of A _ 0 false w HL.out HX.out (by simp [sentL]) (by decide)
      have K1 : Hid (Calls Tryz.prog 59 #[errV A (some 5), .iface 157 (.pointer (some (A 1)))] w fun e w' => e = .returned (.bool false) ∧ w = w') := is_of A _ 1 false w HL.out HX.out (by simp [sentL]) (by decide)
      have K2 : Hid (Calls Tryz.prog 59 #[errV A (some 5), .iface 157 (.pointer (some (A 2)))] w fun e w' => e = .returned (.bool false) ∧ w = w') := is_of A _ 2 false w HL.out HX.out (by simp [sentL]) (by decide)
      have K3 : Hid (Calls Tryz.prog 59 #[errV A (some 5), .iface 157 (.pointer (some (A 3)))] w fun e w' => e = .returned (.bool false) ∧ w = w') := is_of A _ 3 false w HL.out HX.out (by simp [sentL]) (by decide)
      have K4 : Hid (Calls Tryz.prog 59 #[errV A (some 5), .iface 157 (.pointer (some (A 4)))] w fun e w' => e = .returned (.bool false) ∧ w = w') := is_of A _ 4 false w HL.out HX.out (by simp [sentL]) (by decide)
      have K5 : Hid (Calls Tryz.prog 59 #[errV A (some 5), .iface 157 (.pointer (some (A 5)))] w fun e w' => e = .returned (.bool true) ∧ w = w') := is_of A _ 5 true w HL.out HX.out (by simp [sentL]) (by decide)
      generalize errV A (some 5) = ev at *
      clear h hx HX
      go_enter Tryz.func27, Tryz.ntmps27
      go_wp2_with (first
        | (go_at_call_of 59 (Value.pointer (some (A 0))); refine K0.out.mono ?_; rintro e w1 ⟨rfl, rfl⟩)
        | (go_at_call_of 59 (Value.pointer (some (A 1))); refine K1.out.mono ?_; rintro e w1 ⟨rfl, rfl⟩)
        | (go_at_call_of 59 (Value.pointer (some (A 2))); refine K2.out.mono ?_; rintro e w1 ⟨rfl, rfl⟩)
        | (go_at_call_of 59 (Value.pointer (some (A 3))); refine K3.out.mono ?_; rintro e w1 ⟨rfl, rfl⟩)
        | (go_at_call_of 59 (Value.pointer (some (A 4))); refine K4.out.mono ?_; rintro e w1 ⟨rfl, rfl⟩)
        | (go_at_call_of 59 (Value.pointer (some (A 5))); refine K5.out.mono ?_; rintro e w1 ⟨rfl, rfl⟩))
      go_ret
      exact ⟨rfl, rfl⟩
end Go.Proofs.YtkigmpeanllimaaGreatDoor.Sent
