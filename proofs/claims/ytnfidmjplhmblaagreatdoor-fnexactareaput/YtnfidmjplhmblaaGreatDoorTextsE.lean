/- Laws that the proof rests on, put together: What the laws' own functions that weigh a disk answer. What the laws' own functions answer that weigh, mark and look at a disk. What the laws' own functions on lists of numbers (int64) answer: copied, compared, marked. 'append([]T{}, xs...)': a copy of a list of texts, of pending writes, in a block of its own. A disk of the call's own, within a range of blocks; the laws' functions on it. The laws' functions on disks of the call's own, and on what the disk's functions tell. What the disk's functions tell, as plain data. Boxes of the call's own; what a right disk holds. What the program's hasSector, copyTexts and copyDisk answer. -/
import Derived.Test.YtnfidmjplhmblaaGreatDoorSpecDiskRight
import Derived.ArgAppend
import Derived.Deep.Upon
import Derived.Deep.AppendLies
import Derived.Deep.RegionHeld3
import Derived.Test.YtnfidmjplhmblaaGreatDoorTextsA
import Derived.Test.YtnfidmjplhmblaaGreatDoorTextsB
import Derived.Deep.DrawnRows
/- What the laws' own functions that weigh a disk answer. -/
namespace Go.Proofs.YtnfidmjplhmblaaGreatDoor.Harn
open Go.RowKit Go.Proofs.YtnfidmjplhmblaaGreatDoor.Mem Go.Proofs.YtnfidmjplhmblaaGreatDoor.Mark

theorem szPend1_in (x : Int) (t : ByteArray) (left : Nat) (w : World) (h : t.size ≤ left) (hl : left ≤ 1048576) :
    Calls Tryz.prog 40 #[.agg #[.int .i64 x, .string t], .int .i64 (left : Int)] w fun e w' => e = .returned (.int .i64 ((left - t.size : Nat) : Int)) ∧ Below w.heap.size w w' := by
  have e1 : ((left - t.size : Nat) : Int) = (left : Int) - (t.size : Int) := by omega
  rw [e1]
  go_enter Tryz.func40, Tryz.ntmps40
  go_wp2
  go_ret
  exact ⟨rfl, (Below.refl _ _).alloc (Nat.le_refl _) _⟩
theorem szPend1_out (x : Int) (t : ByteArray) (left : Nat) (w : World) (h : left < t.size) (ht : t.size ≤ 9223372036854775807) (hl : left ≤ 1048576) :
    Calls Tryz.prog 40 #[.agg #[.int .i64 x, .string t], .int .i64 (left : Int)] w fun e w' => e = .returned (.int .i64 (-1)) ∧ Below w.heap.size w w' := by
  go_enter Tryz.func40, Tryz.ntmps40
  go_wp2
  go_ret
  exact ⟨rfl, (Below.refl _ _).alloc (Nat.le_refl _) _⟩

/-- What a list of pending writes weighs. -/
def wtP (l : List (Int × ByteArray)) : Nat := wt (l.map (·.2))
theorem wtP_take (l : List (Int × ByteArray)) (k : Nat) (h : k < l.length) : wtP (l.take (k + 1)) = wtP (l.take k) + l[k].2.size := by
  unfold wtP
  rw [List.take_succ_eq_append_getElem h, List.map_append, wt_append]
  simp [wt]
theorem wtP_le (l : List (Int × ByteArray)) (k : Nat) : wtP (l.take k) ≤ wtP l := by
  unfold wtP
  rw [List.map_take]
  exact wt_le _ _

set_option maxHeartbeats 1000000 in
theorem szPend_any (v : Value) (l : List (Int × ByteArray)) (left : Nat) (w : World) (h : Pends w v l) (hn : l.length ≤ maxLen) (hl : left ≤ 1048576) (hs : ∀ y ∈ l, y.2.size ≤ maxLen) :
    Calls Tryz.prog 14 #[v, .int .i64 (left : Int)] w fun e w' => Below w.heap.size w w' ∧ ((∃ r : Nat, e = .returned (.int .i64 (r : Int)) ∧ r + l.length + wtP l = left) ∨ (e = .returned (.int .i64 (-1)) ∧ left < l.length + wtP l)) := by
  obtain ⟨a, cap, rfl, hc⟩ := h
  have HC : Hid (∀ j (h : j < l.length), ∃ b o, a = some ⟨b, o, none⟩ ∧ w.cell? ⟨b, o + j * 2, none⟩ = some (.int .i64 l[j].1) ∧ w.cell? ⟨b, o + j * 2 + 1, none⟩ = some (.string l[j].2)) := hc
  have HSS : Hid (∀ y ∈ l, y.2.size ≤ maxLen) := hs
  unfold maxLen at hn
  clear hc hs
  by_cases h0 : left < l.length
  · go_enter Tryz.func14, Tryz.ntmps14
    go_wp2
    go_ret
    exact ⟨Below.refl _ _, .inr ⟨rfl, by omega⟩⟩
  · go_enter Tryz.func14, Tryz.ntmps14
    go_wp2
    go_loopw [1, 5] (fun r i wr => Below w.heap.size w wr ∧ ∃ k r' : Nat, k ≤ l.length ∧ i = .int .i64 k ∧ r = .int .i64 (r' : Int) ∧ r' + l.length + wtP (l.take k) = left) (fun _ i _ => l.length - (intOf i).toNat)
    case atStart => exact ⟨Below.refl _ _, 0, left - l.length, by omega, rfl, by congr 1; omega, by simp [wtP, wt]; omega⟩
    case round =>
      obtain ⟨hbel, k, r', hk, rfl, rfl, hr⟩ := hrel
      by_cases hlt : k < l.length
      · obtain ⟨b, o, rfl, d1, d2⟩ := HC.out k hlt
        have c1 : wr.cell? ⟨b, o + k * 2, none⟩ = _ := (hbel.cell (World.block_lt_of_cell? w _ d1)).trans d1
        have c2 : wr.cell? ⟨b, o + k * 2 + 1, none⟩ = _ := (hbel.cell (World.block_lt_of_cell? w _ d2)).trans d2
        have p1 : (k : Int) < (l.length : Int) := by omega
        have hw := wtP_take l k hlt
        have hle := wtP_le l (k + 1)
        have hts : l[k].2.size ≤ 9223372036854775807 := HSS.out _ (List.getElem_mem hlt)
        generalize l[k].1 = x at *
        generalize l[k].2 = t at *
        have HB : Hid (Below w.heap.size w wr) := hbel
        clear d1 d2 hbel
        by_cases hbig : r' < t.size
        · have KO : Hid (∀ W, Calls Tryz.prog 40 #[.agg #[.int .i64 x, .string t], .int .i64 (r' : Int)] W fun e w' => e = .returned (.int .i64 (-1)) ∧ Below W.heap.size W w') := fun W => szPend1_out x t r' W hbig hts (by omega)
          go_wp2_with (go_at_call 40; refine (KO.out _).mono ?_; rintro e w1 ⟨rfl, hb1⟩)
          go_ret
          exact ⟨HB.out.trans (hb1.mono HB.out.size), .inr ⟨rfl, by omega⟩⟩
        · have KI : Hid (∀ W, Calls Tryz.prog 40 #[.agg #[.int .i64 x, .string t], .int .i64 (r' : Int)] W fun e w' => e = .returned (.int .i64 ((r' - t.size : Nat) : Int)) ∧ Below W.heap.size W w') := fun W => szPend1_in x t r' W (by omega) (by omega)
          obtain ⟨r2, hr2⟩ : ∃ r2, r2 = r' - t.size := ⟨_, rfl⟩
          rw [← hr2] at KI
          have HR2 : Hid (r2 = r' - t.size) := hr2
          clear hr2
          go_wp2_with (go_at_call 40; refine (KI.out _).mono ?_; rintro e w1 ⟨rfl, hb1⟩)
          have hr3 := HR2.out
          go_roundw
          case rel => exact ⟨HB.out.trans (hb1.mono HB.out.size), k + 1, r2, by omega, by go_num, rfl, by omega⟩
          case measure => simp [intOf]; omega
      · have e : k = l.length := by omega
        subst e
        rw [List.take_length] at hr
        go_wp2
        go_ret
        exact ⟨hbel, .inl ⟨r', rfl, hr⟩⟩
end Go.Proofs.YtnfidmjplhmblaaGreatDoor.Harn

/- What the laws' own functions answer that weigh, mark and look at a disk. -/
namespace Go.Proofs.YtnfidmjplhmblaaGreatDoor.Harn
open Go.RowKit Go.Proofs.YtnfidmjplhmblaaGreatDoor.Mem Go.Proofs.YtnfidmjplhmblaaGreatDoor.Mark

/-- What a disk weighs. -/
def wtD (ls : List ByteArray) (lp : List (Int × ByteArray)) : Nat := ls.length + wt ls + (lp.length + wtP lp)

set_option maxHeartbeats 1000000 in
theorem szDisk_any (vs vp : Value) (ls : List ByteArray) (lp : List (Int × ByteArray)) (left : Nat) (w : World) (hs : Strs w vs ls) (hp : Pends w vp lp) (h1 : ls.length ≤ maxLen) (h2 : lp.length ≤ maxLen) (h3 : ∀ t ∈ ls, t.size ≤ maxLen) (h4 : ∀ y ∈ lp, y.2.size ≤ maxLen) (hl : left ≤ 1048576) :
    Calls Tryz.prog 4 #[.agg #[vs, vp], .int .i64 (left : Int)] w fun e w' => Below w.heap.size w w' ∧ ((∃ r : Nat, e = .returned (.int .i64 (r : Int)) ∧ r + wtD ls lp = left) ∨ (e = .returned (.int .i64 (-1)) ∧ left < wtD ls lp)) := by
  have hB0 : Below w.heap.size w (w.alloc (Obj.cells #[vs, vp] 25)) := (Below.refl _ _).alloc (Nat.le_refl _) _
  have HB0 : Hid (Below w.heap.size w (w.alloc (Obj.cells #[vs, vp] 25))) := hB0
  have HS : Hid (Strs (w.alloc (Obj.cells #[vs, vp] 25)) vs ls) := Strs.below hs hB0
  have HP : Hid (Pends (w.alloc (Obj.cells #[vs, vp] 25)) vp lp) := Pends.below hp hB0
  have H3 : Hid (∀ t ∈ ls, t.size ≤ maxLen) := h3
  have H4 : Hid (∀ y ∈ lp, y.2.size ≤ maxLen) := h4
  clear hs hp hB0 h3 h4
  by_cases hA : ls.length + wt ls ≤ left
  · by_cases hC : wtD ls lp ≤ left
    · have hD : ls.length + wt ls + (lp.length + wtP lp) ≤ left := hC
      go_enter Tryz.func4, Tryz.ntmps4
      go_wp2_with (first
        | (go_at_call 13; refine (szStr_any vs ls left _ HS.out h1 hl H3.out).mono ?_; rintro e w1 ⟨rfl, ⟨r, rfl, hr⟩ | ⟨rfl, hr⟩⟩; rotate_left; (exfalso; omega))
        | (go_at_call 14; refine (szPend_any vp lp r _ HP.out h2 (by omega) H4.out).mono ?_; rintro e w2 ⟨hb2, ⟨r2, rfl, hr2⟩ | ⟨rfl, hr2⟩⟩; rotate_left; (exfalso; omega)))
      go_ret
      exact ⟨HB0.out.trans (hb2.mono HB0.out.size), .inl ⟨r2, rfl, by unfold wtD; omega⟩⟩
    · have hD : left < ls.length + wt ls + (lp.length + wtP lp) := Nat.lt_of_not_le hC
      go_enter Tryz.func4, Tryz.ntmps4
      go_wp2_with (first
        | (go_at_call 13; refine (szStr_any vs ls left _ HS.out h1 hl H3.out).mono ?_; rintro e w1 ⟨rfl, ⟨r, rfl, hr⟩ | ⟨rfl, hr⟩⟩; rotate_left; (exfalso; omega))
        | (go_at_call 14; refine (szPend_any vp lp r _ HP.out h2 (by omega) H4.out).mono ?_; rintro e w2 ⟨hb2, ⟨r2, rfl, hr2⟩ | ⟨rfl, hr2⟩⟩; (exfalso; omega)))
      go_ret
      exact ⟨HB0.out.trans (hb2.mono HB0.out.size), .inr ⟨rfl, by unfold wtD; omega⟩⟩
  · go_enter Tryz.func4, Tryz.ntmps4
    go_wp2_with (go_at_call 13; refine (szStr_any vs ls left _ HS.out h1 hl H3.out).mono ?_; rintro e w1 ⟨rfl, ⟨r, rfl, hr⟩ | ⟨rfl, hr⟩⟩; (exfalso; omega))
    go_ret
    exact ⟨HB0.out, .inr ⟨rfl, by unfold wtD; omega⟩⟩

theorem far_cell {W W' : World} {row : Option Nat} (hg : W.grownBy W' row) (a : Addr) (hlt : a.block < W.heap.size) (hne : some a.block ≠ row) : W'.cell? a = W.cell? a := by
  unfold World.cell?
  rw [hg.block a.block hlt hne]
theorem far_frozen {W W' : World} {row : Option Nat} (hg : W.grownBy W' row) (a : Addr) (hlt : a.block < W.heap.size) (hne : some a.block ≠ row) : W'.frozen? a = W.frozen? a := by
  unfold World.frozen?
  rw [hg.block a.block hlt hne]

/-- What a function left that wrote into one block alone. -/
theorem StrsAt.grown {W W' : World} {b g o : Nat} {l : List ByteArray} (h : StrsAt W g o l) (hg : W.grownBy W' (some b)) (hn : g ≠ b) : StrsAt W' g o l := fun j hj => by
  obtain ⟨h1, h2⟩ := h j hj
  have hlt := World.block_lt_of_cell? W _ h1
  have hne : some g ≠ some b := fun e => hn (Option.some.inj e)
  exact ⟨(far_cell hg _ hlt hne).trans h1, (far_frozen hg _ hlt hne).trans h2⟩
theorem PendsAt.grown {W W' : World} {b g o : Nat} {l : List (Int × ByteArray)} (h : PendsAt W g o l) (hg : W.grownBy W' (some b)) (hn : g ≠ b) : PendsAt W' g o l := fun j hj => by
  obtain ⟨h1, h2, h3, h4⟩ := h j hj
  have hlt := World.block_lt_of_cell? W _ h1
  have hne : some g ≠ some b := fun e => hn (Option.some.inj e)
  exact ⟨(far_cell hg ⟨g, o + j * 2, none⟩ hlt hne).trans h1, (far_cell hg ⟨g, o + j * 2 + 1, none⟩ hlt hne).trans h2, (far_frozen hg ⟨g, o + j * 2, none⟩ hlt hne).trans h3, (far_frozen hg ⟨g, o + j * 2 + 1, none⟩ hlt hne).trans h4⟩

set_option maxHeartbeats 1000000 in
/-- 'markDisk' writes its marks into the two blocks of the disk, and nowhere else. -/
theorem markDisk_any (gs gp os op cs cp k : Nat) (ls : List ByteArray) (lp : List (Int × ByteArray)) (w : World) (hs : StrsAt w gs os ls) (hp : PendsAt w gp op lp) (hne : gs ≠ gp) (hgs : gs < w.heap.size) (h1 : ls.length ≤ 1100000) (h2 : lp.length ≤ 1100000) (hk : k ≤ 10000000) :
    Calls Tryz.prog 10 #[.agg #[.slice (some ⟨gs, os, none⟩) ls.length cs, .slice (some ⟨gp, op, none⟩) lp.length cp], .int .i64 (k : Int)] w fun e w' => e = .returned (.int .i64 ((k + ls.length + 2 * lp.length : Nat) : Int)) ∧ StrsAt w' gs os (marks k ls.length) ∧ PendsAt w' gp op (marksP (k + ls.length) lp.length) ∧ ∃ w1 w2, Below w.heap.size w w1 ∧ w1.grownBy w2 (some gs) ∧ w2.grownBy w' (some gp) := by
  obtain ⟨W0, hW0⟩ : ∃ W0, W0 = w.alloc (Obj.cells #[.slice (some ⟨gs, os, none⟩) ls.length cs, .slice (some ⟨gp, op, none⟩) lp.length cp] 29) := ⟨_, rfl⟩
  have hB0 : Below w.heap.size w W0 := by rw [hW0]; exact (Below.refl _ _).alloc (Nat.le_refl _) _
  have HB0 : Hid (Below w.heap.size w W0) := hB0
  have HS : Hid (StrsAt W0 gs os ls) := StrsAt.below hs hB0
  have HP : Hid (PendsAt W0 gp op lp) := PendsAt.below hp hB0
  clear hs hp hB0
  rw [hW0] at HS HP HB0
  clear hW0 W0
  go_enter Tryz.func10, Tryz.ntmps10
  have A1 : Hid (∀ w1, (w.alloc (Obj.cells #[.slice (some ⟨gs, os, none⟩) ls.length cs, .slice (some ⟨gp, op, none⟩) lp.length cp] 29)).grownBy w1 (some gs) → w1.cell? ⟨w.heap.size, 1, none⟩ = some (.slice (some ⟨gp, op, none⟩) lp.length cp)) := fun w1 hg => by
    rw [far_cell hg _ (by simp) (by simp; omega)]
    exact Mem.cell_of_row (Sha.row_new w [.slice (some ⟨gs, os, none⟩) ls.length cs, .slice (some ⟨gp, op, none⟩) lp.length cp] 29) 1
  go_wp2_with (first
    | (go_at_call 37; refine (markStr_any gs os cs k ls _ HS.out h1 (by omega)).mono ?_; rintro e w1 ⟨rfl, hs1, hg1⟩; have a1 := A1.out w1 hg1; have HS1 : Hid _ := hs1; have HG1 : Hid _ := hg1; clear hs1 hg1)
    | (go_at_call 38; refine (markPend_any gp op cp (k + ls.length) lp _ (PendsAt.grown HP.out HG1.out hne.symm) h2 (by omega)).mono ?_; rintro e w2 ⟨rfl, hs2, hg2⟩; have HS2 : Hid _ := hs2; have HG2 : Hid _ := hg2; clear hs2 hg2))
  go_ret
  exact ⟨rfl, StrsAt.grown HS1.out HG2.out hne, HS2.out, _, _, HB0.out, HG1.out, HG2.out⟩

set_option maxHeartbeats 1000000 in
theorem heldDisk_any (vs vp : Value) (k n m : Nat) (w : World) (hs : Strs w vs (marks k n)) (hp : Pends w vp (marksP (k + n) m)) (h1 : n ≤ 1100000) (h2 : m ≤ 1100000) (hk : k ≤ 10000000) :
    Calls Tryz.prog 39 #[.agg #[vs, vp], .int .i64 (k : Int)] w fun e w' => e = .returned (.int .i64 ((k + n + 2 * m : Nat) : Int)) ∧ Below w.heap.size w w' := by
  have hB0 : Below w.heap.size w (w.alloc (Obj.cells #[vs, vp] 29)) := (Below.refl _ _).alloc (Nat.le_refl _) _
  have HB0 : Hid (Below w.heap.size w (w.alloc (Obj.cells #[vs, vp] 29))) := hB0
  have HS : Hid (Strs (w.alloc (Obj.cells #[vs, vp] 29)) vs (marks k n)) := Strs.below hs hB0
  have HP : Hid (Pends (w.alloc (Obj.cells #[vs, vp] 29)) vp (marksP (k + n) m)) := Pends.below hp hB0
  have A1 : Hid (∀ w1, Below (w.alloc (Obj.cells #[vs, vp] 29)).heap.size (w.alloc (Obj.cells #[vs, vp] 29)) w1 → w1.cell? ⟨w.heap.size, 1, none⟩ = some vp) := fun w1 hg => by
    rw [hg.cell (by simp)]
    exact Mem.cell_of_row (Sha.row_new w [vs, vp] 29) 1
  clear hs hp hB0
  go_enter Tryz.func39, Tryz.ntmps39
  go_wp2_with (first
    | (go_at_call 58; refine (heldStr_any vs k n _ HS.out h1 (by omega)).mono ?_; rintro e w1 ⟨rfl, hg1⟩; have a1 := A1.out w1 hg1; have HG1 : Hid _ := hg1; clear hg1)
    | (go_at_call 59; refine (heldPend_any vp (k + n) m _ (Pends.below HP.out HG1.out) h2 (by omega)).mono ?_; rintro e w2 ⟨rfl, hg2⟩; have HG2 : Hid _ := hg2; clear hg2))
  go_ret
  exact ⟨rfl, (HB0.out.trans (HG1.out.mono HB0.out.size)).trans (HG2.out.mono (HB0.out.trans (HG1.out.mono HB0.out.size)).size)⟩
end Go.Proofs.YtnfidmjplhmblaaGreatDoor.Harn

/- What the laws' own functions on lists of numbers (int64) answer: copied, compared, marked. -/
namespace Go.Proofs.YtnfidmjplhmblaaGreatDoor.Harn
open Go.RowKit Go.Proofs.YtnfidmjplhmblaaGreatDoor.Mem Go.Proofs.YtnfidmjplhmblaaGreatDoor.Mark

/-- The slice v reads as the numbers l. -/
def Ints (W : World) (v : Value) (l : List Int) : Prop :=
  ∃ a cap, v = .slice a l.length cap ∧ ∀ j (h : j < l.length), ∃ b o, a = some ⟨b, o, none⟩ ∧ W.cell? ⟨b, o + j, none⟩ = some (.int .i64 l[j])

theorem Ints.below {W W' : World} {v : Value} {l : List Int} (h : Ints W v l) (hb : Below W.heap.size W W') : Ints W' v l := by
  obtain ⟨a, cap, hv, hc⟩ := h
  refine ⟨a, cap, hv, fun j hj => ?_⟩
  obtain ⟨b, o, ha, hcell⟩ := hc j hj
  refine ⟨b, o, ha, ?_⟩
  rw [hb.cell (World.block_lt_of_cell? W _ hcell)]
  exact hcell

/-- The numbers l lie in block g from place o on, and may be written. -/
def IntsAt (W : World) (g o : Nat) (l : List Int) : Prop := ∀ j (h : j < l.length), W.cell? ⟨g, o + j, none⟩ = some (.int .i64 l[j]) ∧ W.frozen? ⟨g, o + j, none⟩ = false

theorem IntsAt.ints {W : World} {g o : Nat} {l : List Int} (h : IntsAt W g o l) (c : Nat) : Ints W (.slice (some ⟨g, o, none⟩) l.length c) l :=
  ⟨_, c, rfl, fun j hj => ⟨g, o, rfl, (h j hj).1⟩⟩
theorem IntsAt.below {W W' : World} {g o : Nat} {l : List Int} (h : IntsAt W g o l) (hb : Below W.heap.size W W') : IntsAt W' g o l := fun j hj => by
  have hl := World.block_lt_of_cell? W _ (h j hj).1
  rw [hb.cell hl, hb.frozen hl]
  exact h j hj
theorem IntsAt.grown {W W' : World} {b g o : Nat} {l : List Int} (h : IntsAt W g o l) (hg : W.grownBy W' (some b)) (hn : g ≠ b) : IntsAt W' g o l := fun j hj => by
  obtain ⟨h1, h2⟩ := h j hj
  have hlt := World.block_lt_of_cell? W _ h1
  have hne : some g ≠ some b := fun e => hn (Option.some.inj e)
  exact ⟨(far_cell hg _ hlt hne).trans h1, (far_frozen hg _ hlt hne).trans h2⟩
theorem IntsAt.set {W : World} {g o i : Nat} {l : List Int} (h : IntsAt W g o l) (hi : i < l.length) (t : Int) : IntsAt (W.setCell ⟨g, o + i, none⟩ (.int .i64 t)) g o (l.set i t) := fun j hj => by
  have hj2 : j < l.length := by simpa using hj
  refine ⟨?_, ?_⟩
  · by_cases e : i = j
    · subst e
      rw [List.getElem_set_self]
      exact World.cell?_setCell_same _ _ _ (h i hi).1
    · rw [List.getElem_set_ne e]
      rw [World.cell?_setCell_other W _ _ _ (by intro h2; injection h2 with _ h3 _; omega)]
      exact (h j hj2).1
  · have := (h j hj2).2
    simpa using this
theorem row_ints {W : World} {g : Nat} {l : List Int} {T : TypeId} (h : HasRow W g (l.map (Value.int .i64)) T) : IntsAt W g 0 l := fun j hj => by
  refine ⟨?_, by rw [Mem.frozen_of_row h]⟩
  rw [Mem.cell_of_row h]
  simp [hj]

theorem infoI64 : (Tryz.prog.info? 2).map (fun i => (i.zero, i.size, i.bytes)) = some (some (.int .i64 0), 1, 8) := by kernel_rfl
/-- A list of numbers of which the first k are laid. -/
def icopy (l : List Int) (k : Nat) : List Value := (l.take k).map (Value.int .i64) ++ List.replicate (l.length - k) (.int .i64 0)
theorem icopy_start (l : List Int) : icopy l 0 = List.replicate l.length (.int .i64 0) := by simp [icopy]
theorem icopy_end (l : List Int) : icopy l l.length = l.map (Value.int .i64) := by simp [icopy]
theorem icopy_cell (l : List Int) (k : Nat) (hk : k < l.length) : (icopy l k)[k]? = some (.int .i64 0) := by
  have hl : ((l.take k).map (Value.int .i64)).length = k := by simp; omega
  unfold icopy
  rw [List.getElem?_append_right (by omega), hl, Nat.sub_self, List.getElem?_replicate, if_pos (by omega)]
theorem icopy_set (l : List Int) (k : Nat) (hk : k < l.length) : (icopy l k).set k (.int .i64 l[k]) = icopy l (k + 1) := by
  have hl : ((l.take k).map (Value.int .i64)).length = k := by simp; omega
  unfold icopy
  rw [List.set_append_right _ _ (by omega), hl, Nat.sub_self, show l.length - k = (l.length - (k + 1)) + 1 by omega, List.replicate_succ, List.set_cons_zero, List.take_succ_eq_append_getElem hk]
  simp only [List.map_append, List.map_cons, List.map_nil, List.append_assoc, List.singleton_append]

/-- The marks of a list of n numbers, from k on. -/
def marksI (k n : Nat) : List Int := (List.range n).map fun (i : Nat) => ((k + i : Nat) : Int)
theorem length_marksI (k n : Nat) : (marksI k n).length = n := by simp [marksI]
def markITo (l : List Int) (k i : Nat) : List Int := marksI k i ++ l.drop i
theorem length_markITo (l : List Int) (k i : Nat) (h : i ≤ l.length) : (markITo l k i).length = l.length := by simp [markITo, length_marksI]; omega
theorem markITo_start (l : List Int) (k : Nat) : markITo l k 0 = l := by simp [markITo, marksI]
theorem markITo_end (l : List Int) (k : Nat) : markITo l k l.length = marksI k l.length := by simp [markITo]
theorem markITo_set (l : List Int) (k i : Nat) (h : i < l.length) : (markITo l k i).set i ((k + i : Nat) : Int) = markITo l k (i + 1) := by
  have hl := length_marksI k i
  unfold markITo
  rw [List.set_append_right _ _ (by omega), hl, Nat.sub_self, List.drop_eq_getElem_cons h, List.set_cons_zero]
  simp [marksI, List.range_succ]

end Go.Proofs.YtnfidmjplhmblaaGreatDoor.Harn

/- 'append([]T{}, xs...)': a copy of a list of texts, of pending writes, in a block of its own. -/
namespace Go.Proofs.YtnfidmjplhmblaaGreatDoor.Harn
open Go.RowKit Go.Proofs.YtnfidmjplhmblaaGreatDoor.Mem Go.Proofs.YtnfidmjplhmblaaGreatDoor.Mark

theorem bel_grown {W W1 : World} (h : W.grownBy W1 none) : Below W.heap.size W W1 := ⟨h.os, h.tape, h.output, h.size, fun k hk => h.block k hk (by simp)⟩

/-- A run of 'append' of at least one element behind an empty slice without room. -/
theorem app_new {P : Program} (t ty e : TypeId) (z : Value) (size bytes : Nat) (ht : P.underlying t = some (.slice e)) (hi : (P.info? e).map (fun i => (i.zero, i.size, i.bytes)) = some (some z, size, bytes)) (hzs : z.cells.size = size) (hsz : 0 < size) (b0 : Addr)
    (a : Addr) (m c : Nat) (news : List Value) (w : World) (hl : news.length = m * size) (hnews : ∀ j u, news[j]? = some u → w.cell? (a.add j) = some u) (hm : 0 < m) (h63 : m ≤ maxLen) (hbytes : m * bytes ≤ 140737488355328) :
    ∃ g cap W1, (Builtin.append_ #[t, t] ty #[.slice (some b0) 0 0, .slice (some a) m c]).run P w = .ok (.slice (some ⟨g, 0, none⟩) m cap) W1 ∧ w.heap.size ≤ g ∧ g < W1.heap.size ∧ Below w.heap.size w W1 ∧ (∀ j u, news[j]? = some u → W1.cell? ⟨g, j, none⟩ = some u) ∧ (∀ j, W1.frozen? ⟨g, j, none⟩ = false) ∧ W1.ownsRow w.heap.size e size (.slice (some ⟨g, 0, none⟩) m cap) m news := by
  obtain ⟨i, hi0, hz0, hz1, hz2⟩ := info_parts hi
  obtain ⟨v', W1, hr, hown, hgr⟩ := run_append_arg_grows (P := P) w t ty e i z size bytes ht hi0 hz0 hz1 hz2 hzs hsz b0 0 0 [] (by simp) (by simp) a m c news hl hnews (by omega) (by omega) (by simpa using hbytes)
  rw [Nat.zero_add, List.nil_append] at hown
  have hown0 := hown
  rcases hown.2 with ⟨_, h0⟩ | ⟨g, cap, cur, rfl, hb, hg, h1, h2, h3, h4⟩
  · omega
  · refine ⟨g, cap, W1, hr, hb, ?_, bel_grown hgr, fun j u hu => ?_, fun j => ?_, hown0⟩
    · rcases Nat.lt_or_ge g W1.heap.size with hlt | hge
      · exact hlt
      · rw [Array.getElem?_eq_none hge] at hg; cases hg
    · rw [cell_of_row W1 g j cur e (0, 0) hg]
      have hj : j < news.length := by
        rcases Nat.lt_or_ge j news.length with h | h
        · exact h
        · rw [List.getElem?_eq_none h] at hu; cases hu
      rw [← h4, List.getElem?_take_of_lt (by omega)] at hu
      simpa using hu
    · simp [World.frozen?, hg]

theorem app_none {P : Program} (t ty e : TypeId) (z : Value) (size bytes : Nat) (ht : P.underlying t = some (.slice e)) (hi : (P.info? e).map (fun i => (i.zero, i.size, i.bytes)) = some (some z, size, bytes)) (b0 : Addr) (a : Option Addr) (c : Nat) (w : World) :
    (Builtin.append_ #[t, t] ty #[.slice (some b0) 0 0, .slice a 0 c]).run P w = .ok (.slice (some b0) 0 0) w := by
  obtain ⟨i, hi0, hz0, hz1, hz2⟩ := info_parts hi
  cases a <;> simp [Builtin.append_, run_underlying ht, sizeOf, typeInfo, hi0, Builtin.lenOf, Builtin.firstCells, storeCells, loadCells, loadCellsFrom]

theorem app_strs (ty : TypeId) (g0 : Nat) (v : Value) (ls : List ByteArray) (W : World) (h : Strs W v ls) (hn : ls.length ≤ 1100000) (hg0 : g0 < W.heap.size) :
    ∃ g cap W1, (Builtin.append_ #[22, 22] ty #[.slice (some ⟨g0, 0, none⟩) 0 0, v]).run Tryz.prog W = .ok (.slice (some ⟨g, 0, none⟩) ls.length cap) W1 ∧ StrsAt W1 g 0 ls ∧ (g = g0 ∨ W.heap.size ≤ g) ∧ g < W1.heap.size ∧ Below W.heap.size W W1 := by
  obtain ⟨a, c, rfl, hc⟩ := h
  by_cases h0 : ls.length = 0
  · have e : ls = [] := List.length_eq_zero_iff.1 h0
    subst e
    exact ⟨g0, 0, W, app_none _ ty _ _ _ _ underStrs infoStr _ a c W, fun j hj => absurd hj (by simp), .inl rfl, hg0, Below.refl _ _⟩
  · obtain ⟨b, o, rfl, _⟩ := hc 0 (by omega)
    obtain ⟨g, cap, W1, hr, h1, h2, h3, h4, h5, _⟩ := app_new (P := Tryz.prog) 22 ty 9 (.string ByteArray.empty) 1 16 underStrs infoStr rfl (by omega) ⟨g0, 0, none⟩ ⟨b, o, none⟩ ls.length c (ls.map Value.string) W (by simp) (fun j u hu => by
      rw [List.getElem?_map] at hu
      cases e : ls[j]? with
      | none => rw [e] at hu; cases hu
      | some t =>
        rw [e] at hu
        obtain ⟨hj, ht⟩ := List.getElem?_eq_some_iff.1 e
        obtain ⟨b', o', hbo, hcell⟩ := hc j hj
        injection hbo with hbo
        injection hbo with e1 e2 _
        subst e1 e2
        have hadd : (⟨b, o, none⟩ : Addr).add j = ⟨b, o + j, none⟩ := by unfold Addr.add; split <;> simp_all
        rw [hadd, hcell, ht]
        simpa using hu) (by omega) (by unfold maxLen; omega) (by omega)
    exact ⟨g, cap, W1, hr, fun j hj => ⟨by rw [Nat.zero_add]; exact h4 j _ (by simp [hj]), by rw [Nat.zero_add]; exact h5 j⟩, .inr h1, h2, h3⟩

/-- The cells of a list of pending writes. -/
def pcells : List (Int × ByteArray) → List Value
  | [] => []
  | y :: l => .int .i64 y.1 :: .string y.2 :: pcells l
theorem length_pcells (l : List (Int × ByteArray)) : (pcells l).length = l.length * 2 := by
  induction l with
  | nil => rfl
  | cons y l ih => simp [pcells, ih]; omega
theorem pcells_at (l : List (Int × ByteArray)) (j : Nat) (h : j < l.length) : (pcells l)[j * 2]? = some (.int .i64 l[j].1) ∧ (pcells l)[j * 2 + 1]? = some (.string l[j].2) := by
  induction l generalizing j with
  | nil => simp at h
  | cons y l ih =>
    cases j with
    | zero => simp [pcells]
    | succ j =>
      have := ih j (by simpa using h)
      rw [show (j + 1) * 2 = j * 2 + 1 + 1 by omega]
      simpa [pcells] using this

theorem app_pends (ty : TypeId) (g0 : Nat) (v : Value) (lp : List (Int × ByteArray)) (W : World) (h : Pends W v lp) (hn : lp.length ≤ 1100000) (hg0 : g0 < W.heap.size) :
    ∃ g cap W1, (Builtin.append_ #[27, 27] ty #[.slice (some ⟨g0, 0, none⟩) 0 0, v]).run Tryz.prog W = .ok (.slice (some ⟨g, 0, none⟩) lp.length cap) W1 ∧ PendsAt W1 g 0 lp ∧ (g = g0 ∨ W.heap.size ≤ g) ∧ g < W1.heap.size ∧ Below W.heap.size W W1 ∧ (cap = lp.length ∨ W1.ownsRow W.heap.size 76 2 (.slice (some ⟨g, 0, none⟩) lp.length cap) lp.length (pcells lp)) := by
  obtain ⟨a, c, rfl, hc⟩ := h
  by_cases h0 : lp.length = 0
  · have e : lp = [] := List.length_eq_zero_iff.1 h0
    subst e
    exact ⟨g0, 0, W, app_none _ ty _ _ _ _ underPends infoPend _ a c W, fun j hj => absurd hj (by simp), .inl rfl, hg0, Below.refl _ _, .inl rfl⟩
  · obtain ⟨b, o, rfl, _⟩ := hc 0 (by omega)
    obtain ⟨g, cap, W1, hr, h1, h2, h3, h4, h5, hown⟩ := app_new (P := Tryz.prog) 27 ty 76 (.agg #[.int .i64 0, .string ByteArray.empty]) 2 24 underPends infoPend rfl (by omega) ⟨g0, 0, none⟩ ⟨b, o, none⟩ lp.length c (pcells lp) W (length_pcells lp) (fun j u hu => by
      have hl := length_pcells lp
      have hj : j < (pcells lp).length := by
        rcases Nat.lt_or_ge j (pcells lp).length with h | h
        · exact h
        · rw [List.getElem?_eq_none h] at hu; cases hu
      obtain ⟨q1, q2⟩ := pcells_at lp (j / 2) (by omega)
      obtain ⟨b', o', hbo, hc1, hc2⟩ := hc (j / 2) (by omega)
      injection hbo with hbo
      injection hbo with e1 e2 _
      subst e1 e2
      have hadd : (⟨b, o, none⟩ : Addr).add j = ⟨b, o + j, none⟩ := by unfold Addr.add; split <;> simp_all
      rw [hadd]
      by_cases hp : j % 2 = 0
      · rw [show j / 2 * 2 = j by omega] at q1 hc1
        rw [hc1, ← q1, hu]
      · rw [show j / 2 * 2 + 1 = j by omega] at q2
        rw [show o + j / 2 * 2 + 1 = o + j by omega] at hc2
        rw [hc2, ← q2, hu]) (by omega) (by unfold maxLen; omega) (by omega)
    exact ⟨g, cap, W1, hr, fun j hj => by
      obtain ⟨q1, q2⟩ := pcells_at lp j hj
      rw [Nat.zero_add]
      exact ⟨h4 _ _ q1, h4 _ _ q2, h5 _, h5 _⟩, .inr h1, h2, h3, .inr hown⟩

/-- An 'append' whose run is known, at a step of a region that draws its order. -/
theorem step_app {P : Program} {w : World} {ops : Array Oper} {o : Oper} {a : Act} {K : Act → World → Prop} {Q : Exit → Act → World → Prop} {E : Prop} (hgd : o.guard = none) (s x : Operand) (t : TypeId)
    (ho : o.op = .call { callee := .builtin .append, args := #[s, x], argTypes := #[t, t] }) (v u r : Value) (w' : World) (hs : a.eval s = v) (hx : a.eval x = u)
    (hr : (Builtin.append_ #[t, t] o.type #[v, u]).run P w = .ok r w') (h : K (a.put o.dst r) w') :
    if Region.wanted o (yielded ops a.tmps) = true then Oper.wp P o a w K Q else E := by
  have hw : Region.wanted o (yielded ops a.tmps) = true := by simp [Region.wanted, hgd]
  rw [if_pos hw]
  unfold Oper.wp execOp
  simp only [ho, resolve, invoke, builtin, Sem.run_bind, Sem.run_pure, Result.andThen_ok, List.map_toArray, List.map_cons, List.map_nil, hs, hx, hr]
  exact h
end Go.Proofs.YtnfidmjplhmblaaGreatDoor.Harn

/- A disk of the call's own, within a range of blocks; the laws' functions on it. -/
namespace Go.Proofs.YtnfidmjplhmblaaGreatDoor.Harn
open Go.RowKit Go.Proofs.YtnfidmjplhmblaaGreatDoor.Mem Go.Proofs.YtnfidmjplhmblaaGreatDoor.Mark

/-- Of the old blocks those of p alone have turned. -/
structure Only (p : Nat → Prop) (w w' : World) : Prop where
  os : w'.os = w.os
  tape : w'.tape = w.tape
  output : w'.output = w.output
  size : w.heap.size ≤ w'.heap.size
  block : ∀ k, k < w.heap.size → ¬ p k → w'.heap[k]? = w.heap[k]?

theorem Only.refl (p : Nat → Prop) (w : World) : Only p w w := ⟨rfl, rfl, rfl, Nat.le_refl _, fun _ _ _ => rfl⟩
theorem Only.trans {p : Nat → Prop} {a b c : World} (h : Only p a b) (k : Only p b c) : Only p a c :=
  ⟨k.os.trans h.os, k.tape.trans h.tape, k.output.trans h.output, Nat.le_trans h.size k.size, fun i hi hp => (k.block i (Nat.lt_of_lt_of_le hi h.size) hp).trans (h.block i hi hp)⟩
theorem Only.mono {p q : Nat → Prop} {a b : World} (h : Only p a b) (hpq : ∀ k, p k → q k) : Only q a b :=
  ⟨h.os, h.tape, h.output, h.size, fun i hi hq => h.block i hi (fun hp => hq (hpq i hp))⟩
theorem Only.of_below {w w' : World} (p : Nat → Prop) (h : Below w.heap.size w w') : Only p w w' := ⟨h.os, h.tape, h.output, h.size, fun k hk _ => h.block k hk⟩
theorem Only.of_grown {p : Nat → Prop} {w w' : World} {g : Nat} (h : w.grownBy w' (some g)) (hg : p g) : Only p w w' :=
  ⟨h.os, h.tape, h.output, h.size, fun k hk hn => h.block k hk (fun e => hn (by injection e with e; rw [e]; exact hg))⟩
theorem Only.below {p : Nat → Prop} {w0 w w' : World} {B : Nat} (h : Only p w w') (hb : Below B w0 w) (hB : B ≤ w.heap.size) (hp : ∀ k, k < B → ¬ p k) : Below B w0 w' :=
  ⟨h.os.trans hb.os, h.tape.trans hb.tape, h.output.trans hb.output, Nat.le_trans hb.size h.size, fun k hk => (h.block k (Nat.lt_of_lt_of_le hk hB) (hp k hk)).trans (hb.block k hk)⟩
theorem Only.cell {p : Nat → Prop} {w w' : World} (h : Only p w w') {a : Addr} (ha : a.block < w.heap.size) (hp : ¬ p a.block) : w'.cell? a = w.cell? a := by
  unfold World.cell?
  rw [h.block a.block ha hp]
theorem Only.frozen {p : Nat → Prop} {w w' : World} (h : Only p w w') {a : Addr} (ha : a.block < w.heap.size) (hp : ¬ p a.block) : w'.frozen? a = w.frozen? a := by
  unfold World.frozen?
  rw [h.block a.block ha hp]
theorem Only.row {p : Nat → Prop} {w w' : World} (h : Only p w w') {g : Nat} {cs : List Value} {e : TypeId} (hr : HasRow w g cs e) (hp : ¬ p g) : HasRow w' g cs e := by
  have hlt : g < w.heap.size := by
    rcases Nat.lt_or_ge g w.heap.size with hlt | hge
    · exact hlt
    · unfold HasRow at hr; rw [Array.getElem?_eq_none hge] at hr; cases hr
  unfold HasRow
  rw [h.block g hlt hp]
  exact hr
theorem StrsAt.only {p : Nat → Prop} {W W' : World} {g o : Nat} {l : List ByteArray} (h : StrsAt W g o l) (hg : Only p W W') (hn : l.length = 0 ∨ ¬ p g) : StrsAt W' g o l := fun j hj => by
  obtain ⟨h1, h2⟩ := h j hj
  have hlt := World.block_lt_of_cell? W _ h1
  have hp : ¬ p g := by rcases hn with h0 | h0; omega; exact h0
  exact ⟨(hg.cell hlt hp).trans h1, (hg.frozen hlt hp).trans h2⟩
theorem PendsAt.only {p : Nat → Prop} {W W' : World} {g o : Nat} {l : List (Int × ByteArray)} (h : PendsAt W g o l) (hg : Only p W W') (hn : l.length = 0 ∨ ¬ p g) : PendsAt W' g o l := fun j hj => by
  obtain ⟨h1, h2, h3, h4⟩ := h j hj
  have hlt := World.block_lt_of_cell? W _ h1
  have hp : ¬ p g := by rcases hn with h0 | h0; omega; exact h0
  exact ⟨(hg.cell (a := ⟨g, o + j * 2, none⟩) hlt hp).trans h1, (hg.cell (a := ⟨g, o + j * 2 + 1, none⟩) hlt hp).trans h2, (hg.frozen (a := ⟨g, o + j * 2, none⟩) hlt hp).trans h3, (hg.frozen (a := ⟨g, o + j * 2 + 1, none⟩) hlt hp).trans h4⟩
theorem IntsAt.only {p : Nat → Prop} {W W' : World} {g o : Nat} {l : List Int} (h : IntsAt W g o l) (hg : Only p W W') (hn : l.length = 0 ∨ ¬ p g) : IntsAt W' g o l := fun j hj => by
  obtain ⟨h1, h2⟩ := h j hj
  have hlt := World.block_lt_of_cell? W _ h1
  have hp : ¬ p g := by rcases hn with h0 | h0; omega; exact h0
  exact ⟨(hg.cell hlt hp).trans h1, (hg.frozen hlt hp).trans h2⟩

/-- The disk v has the sectors ls and the pending writes lp, each in a row of its own among the blocks from lo to hi. -/
def Own (W : World) (lo hi : Nat) (vs vp : Value) (ls : List ByteArray) (lp : List (Int × ByteArray)) : Prop :=
  ∃ va cs vb cp gs os gp op, vs = .slice va ls.length cs ∧ vp = .slice vb lp.length cp ∧ (ls.length = 0 ∨ (va = some ⟨gs, os, none⟩ ∧ lo ≤ gs ∧ gs < hi)) ∧ StrsAt W gs os ls ∧
    (lp.length = 0 ∨ (vb = some ⟨gp, op, none⟩ ∧ lo ≤ gp ∧ gp < hi)) ∧ PendsAt W gp op lp ∧ (gs ≠ gp ∨ ls.length = 0 ∨ lp.length = 0)

theorem Own.strs {W : World} {lo hi : Nat} {vs vp : Value} {ls : List ByteArray} {lp : List (Int × ByteArray)} (h : Own W lo hi vs vp ls lp) : Strs W vs ls := by
  obtain ⟨va, cs, vb, cp, gs, os, gp, op, rfl, rfl, h1, h2, h3, h4, h5⟩ := h
  refine ⟨va, cs, rfl, fun j hj => ?_⟩
  rcases h1 with h1 | ⟨h1, _, _⟩
  · omega
  · exact ⟨gs, os, h1, (h2 j hj).1⟩
theorem Own.pends {W : World} {lo hi : Nat} {vs vp : Value} {ls : List ByteArray} {lp : List (Int × ByteArray)} (h : Own W lo hi vs vp ls lp) : Pends W vp lp := by
  obtain ⟨va, cs, vb, cp, gs, os, gp, op, rfl, rfl, h1, h2, h3, h4, h5⟩ := h
  refine ⟨vb, cp, rfl, fun j hj => ?_⟩
  rcases h3 with h3 | ⟨h3, _, _⟩
  · omega
  · exact ⟨gp, op, h3, (h4 j hj).1, (h4 j hj).2.1⟩
theorem Own.only {p : Nat → Prop} {W W' : World} {lo hi : Nat} {vs vp : Value} {ls : List ByteArray} {lp : List (Int × ByteArray)} (h : Own W lo hi vs vp ls lp) (hg : Only p W W') (hn : ∀ k, lo ≤ k → k < hi → ¬ p k) : Own W' lo hi vs vp ls lp := by
  obtain ⟨va, cs, vb, cp, gs, os, gp, op, rfl, rfl, h1, h2, h3, h4, h5⟩ := h
  exact ⟨va, cs, vb, cp, gs, os, gp, op, rfl, rfl, h1, h2.only hg (h1.imp id fun h => hn gs h.2.1 h.2.2), h3, h4.only hg (h3.imp id fun h => hn gp h.2.1 h.2.2), h5⟩
theorem Own.below {W W' : World} {lo hi : Nat} {vs vp : Value} {ls : List ByteArray} {lp : List (Int × ByteArray)} (h : Own W lo hi vs vp ls lp) (hb : Below W.heap.size W W') : Own W' lo hi vs vp ls lp :=
  h.only (Only.of_below (fun _ => False) hb) (fun _ _ _ h => h)
theorem Own.wide {W : World} {lo hi lo' hi' : Nat} {vs vp : Value} {ls : List ByteArray} {lp : List (Int × ByteArray)} (h : Own W lo hi vs vp ls lp) (h1 : lo' ≤ lo) (h2 : hi ≤ hi') : Own W lo' hi' vs vp ls lp := by
  obtain ⟨va, cs, vb, cp, gs, os, gp, op, e1, e2, a1, a2, a3, a4, a5⟩ := h
  exact ⟨va, cs, vb, cp, gs, os, gp, op, e1, e2, a1.imp id (fun h => ⟨h.1, by omega, by omega⟩), a2, a3.imp id (fun h => ⟨h.1, by omega, by omega⟩), a4, a5⟩
theorem Own.shape {W : World} {lo hi : Nat} {vs vp : Value} {ls : List ByteArray} {lp : List (Int × ByteArray)} (h : Own W lo hi vs vp ls lp) : ∃ va cs vb cp, vs = .slice va ls.length cs ∧ vp = .slice vb lp.length cp := by
  obtain ⟨va, cs, vb, cp, gs, os, gp, op, e1, e2, _⟩ := h
  exact ⟨va, cs, vb, cp, e1, e2⟩
theorem Own.setCell {W : World} {lo hi : Nat} {vs vp : Value} {ls : List ByteArray} {lp : List (Int × ByteArray)} (h : Own W lo hi vs vp ls lp) {a : Addr} (ha : a.block < lo ∨ hi ≤ a.block) (v : Value) : Own (W.setCell a v) lo hi vs vp ls lp :=
  h.only (p := fun b => b = a.block) ⟨rfl, rfl, rfl, by simp, fun k _ hk => Below.heap_setCell _ _ _ _ hk⟩ (fun k h1 h2 e => by subst e; omega)
theorem own_zero (W : World) (lo hi : Nat) : Own W lo hi (.slice none 0 0) (.slice none 0 0) [] [] :=
  ⟨none, 0, none, 0, 0, 0, 0, 0, rfl, rfl, .inl rfl, fun j hj => absurd hj (by simp), .inl rfl, fun j hj => absurd hj (by simp), .inr (.inl rfl)⟩
theorem own_mk {W : World} {lo hi gs gp cs cp : Nat} {ls : List ByteArray} {lp : List (Int × ByteArray)} (h1 : StrsAt W gs 0 ls) (h2 : PendsAt W gp 0 lp) (a1 : lo ≤ gs) (a2 : gs < hi) (b1 : lo ≤ gp) (b2 : gp < hi) (hne : gs ≠ gp) :
    Own W lo hi (.slice (some ⟨gs, 0, none⟩) ls.length cs) (.slice (some ⟨gp, 0, none⟩) lp.length cp) ls lp :=
  ⟨_, cs, _, cp, gs, 0, gp, 0, rfl, rfl, .inr ⟨rfl, a1, a2⟩, h1, .inr ⟨rfl, b1, b2⟩, h2, .inl hne⟩
theorem own_mk0 {W : World} {lo hi gs cs : Nat} {ls : List ByteArray} (h1 : StrsAt W gs 0 ls) (a1 : lo ≤ gs) (a2 : gs < hi) :
    Own W lo hi (.slice (some ⟨gs, 0, none⟩) ls.length cs) (.slice none 0 0) ls [] :=
  ⟨_, cs, none, 0, gs, 0, 0, 0, rfl, rfl, .inr ⟨rfl, a1, a2⟩, h1, .inl rfl, fun j hj => absurd hj (by simp), .inr (.inr rfl)⟩

theorem toDisk_own (vs vp : Value) (ls : List ByteArray) (lp : List (Int × ByteArray)) (w : World) (hs : Strs w vs ls) (hp : Pends w vp lp) (h1 : ls.length ≤ 1100000) (h2 : lp.length ≤ 1100000) :
    Calls Tryz.prog 6 #[.agg #[vs, vp]] w fun e w' => ∃ us up, e = .returned (.agg #[us, up]) ∧ Own w' w.heap.size w'.heap.size us up ls lp ∧ Below w.heap.size w w' ∧ w.heap.size < w'.heap.size := by
  refine (toDisk_any vs vp ls lp w hs hp h1 h2).mono ?_
  rintro e w' ⟨gs, gp, rfl, a1, a2, a3, a4, a5, a6⟩
  exact ⟨_, _, rfl, own_mk a1 a2 a3 (by omega) (by omega) a5 (by omega), a6, by omega⟩

/-! ### marks -/
theorem markStr_opt (g o c k : Nat) (a : Option Addr) (l : List ByteArray) (w : World) (ha : l.length = 0 ∨ a = some ⟨g, o, none⟩) (h : StrsAt w g o l) (hn : l.length ≤ 1100000) (hk : k ≤ 100000000) :
    Calls Tryz.prog 37 #[.slice a l.length c, .int .i64 (k : Int)] w fun e w' => e = .returned (.int .i64 ((k + l.length : Nat) : Int)) ∧ StrsAt w' g o (marks k l.length) ∧ Only (fun b => b = g ∧ l.length ≠ 0) w w' := by
  by_cases h0 : l.length = 0
  · rw [h0]
    go_enter Tryz.func37, Tryz.ntmps37
    go_wp2
    go_loop [1, 5] (fun kk i => kk = .int .i64 (k : Int) ∧ i = .int .i64 0) (fun _ _ => 0)
    case atStart => exact ⟨rfl, rfl⟩
    case round =>
      obtain ⟨rfl, rfl⟩ := hrel
      go_wp2
      go_ret
      exact ⟨rfl, fun j hj => absurd hj (by simp [marks]), Only.refl _ _⟩
  · obtain rfl := ha.resolve_left h0
    refine (markStr_any g o c k l w h hn hk).mono ?_
    rintro e w' ⟨rfl, h1, h2⟩
    exact ⟨rfl, h1, Only.of_grown h2 ⟨rfl, h0⟩⟩
theorem markPend_opt (g o c k : Nat) (a : Option Addr) (l : List (Int × ByteArray)) (w : World) (ha : l.length = 0 ∨ a = some ⟨g, o, none⟩) (h : PendsAt w g o l) (hn : l.length ≤ 1100000) (hk : k ≤ 100000000) :
    Calls Tryz.prog 38 #[.slice a l.length c, .int .i64 (k : Int)] w fun e w' => e = .returned (.int .i64 ((k + 2 * l.length : Nat) : Int)) ∧ PendsAt w' g o (marksP k l.length) ∧ Only (fun b => b = g ∧ l.length ≠ 0) w w' := by
  by_cases h0 : l.length = 0
  · rw [h0]
    go_enter Tryz.func38, Tryz.ntmps38
    go_wp2
    go_loop [1, 5] (fun kk i => kk = .int .i64 (k : Int) ∧ i = .int .i64 0) (fun _ _ => 0)
    case atStart => exact ⟨rfl, rfl⟩
    case round =>
      obtain ⟨rfl, rfl⟩ := hrel
      go_wp2
      go_ret
      exact ⟨rfl, fun j hj => absurd hj (by simp [marksP]), Only.refl _ _⟩
  · obtain rfl := ha.resolve_left h0
    refine (markPend_any g o c k l w h hn hk).mono ?_
    rintro e w' ⟨rfl, h1, h2⟩
    exact ⟨rfl, h1, Only.of_grown h2 ⟨rfl, h0⟩⟩
end Go.Proofs.YtnfidmjplhmblaaGreatDoor.Harn

/- The laws' functions on disks of the call's own, and on what the disk's functions tell. -/
namespace Go.Proofs.YtnfidmjplhmblaaGreatDoor.Harn
open Go.RowKit Go.Proofs.YtnfidmjplhmblaaGreatDoor.Mem Go.Proofs.YtnfidmjplhmblaaGreatDoor.Mark

set_option maxHeartbeats 1000000 in
theorem markDisk_own (lo hi k : Nat) (vs vp : Value) (ls : List ByteArray) (lp : List (Int × ByteArray)) (w : World) (h : Own w lo hi vs vp ls lp) (hhi : hi ≤ w.heap.size) (h1 : ls.length ≤ 1100000) (h2 : lp.length ≤ 1100000) (hk : k ≤ 10000000) :
    Calls Tryz.prog 10 #[.agg #[vs, vp], .int .i64 (k : Int)] w fun e w' => e = .returned (.int .i64 ((k + ls.length + 2 * lp.length : Nat) : Int)) ∧ Own w' lo hi vs vp (marks k ls.length) (marksP (k + ls.length) lp.length) ∧ Only (fun b => lo ≤ b ∧ b < hi) w w' := by
  obtain ⟨va, cs, vb, cp, gs, os, gp, op, rfl, rfl, a1, a2, a3, a4, a5⟩ := h
  obtain ⟨W0, hW0⟩ : ∃ W0, W0 = w.alloc (Obj.cells #[.slice va ls.length cs, .slice vb lp.length cp] 29) := ⟨_, rfl⟩
  have hB0 : Below w.heap.size w W0 := by rw [hW0]; exact (Below.refl _ _).alloc (Nat.le_refl _) _
  have HB0 : Hid (Below w.heap.size w W0) := hB0
  have HS : Hid (StrsAt W0 gs os ls) := StrsAt.below a2 hB0
  have HP : Hid (PendsAt W0 gp op lp) := PendsAt.below a4 hB0
  have HA1 : Hid (ls.length = 0 ∨ (va = some ⟨gs, os, none⟩ ∧ lo ≤ gs ∧ gs < hi)) := a1
  have HA3 : Hid (lp.length = 0 ∨ (vb = some ⟨gp, op, none⟩ ∧ lo ≤ gp ∧ gp < hi)) := a3
  have HA5 : Hid (gs ≠ gp ∨ ls.length = 0 ∨ lp.length = 0) := a5
  clear a1 a2 a3 a4 a5 hB0
  rw [hW0] at HS HP HB0
  clear hW0 W0
  go_enter Tryz.func10, Tryz.ntmps10
  have A1 : Hid (∀ w1, Only (fun b => b = gs ∧ ls.length ≠ 0) (w.alloc (Obj.cells #[.slice va ls.length cs, .slice vb lp.length cp] 29)) w1 → w1.cell? ⟨w.heap.size, 1, none⟩ = some (.slice vb lp.length cp)) := fun w1 hg => by
    rw [hg.cell (by simp) (by rintro ⟨e, h0⟩; have := HA1.out.resolve_left h0; simp at e; omega)]
    exact Mem.cell_of_row (Sha.row_new w [.slice va ls.length cs, .slice vb lp.length cp] 29) 1
  go_wp2_with (first
    | (go_at_call 37; refine (markStr_opt gs os cs k va ls _ (HA1.out.imp id (·.1)) HS.out h1 (by omega)).mono ?_; rintro e w1 ⟨rfl, hs1, hg1⟩; have a1 := A1.out w1 hg1; have HS1 : Hid _ := hs1; have HG1 : Hid _ := hg1; clear hs1 hg1)
    | (go_at_call 38; refine (markPend_opt gp op cp (k + ls.length) vb lp _ (HA3.out.imp id (·.1)) (PendsAt.only HP.out HG1.out (by rcases HA5.out with h | h | h; exact .inr (fun e => h e.1.symm); exact .inr (fun e => e.2 h); exact .inl h)) h2 (by omega)).mono ?_; rintro e w2 ⟨rfl, hs2, hg2⟩; have HS2 : Hid _ := hs2; have HG2 : Hid _ := hg2; clear hs2 hg2))
  go_ret
  refine ⟨rfl, ?_, ?_⟩
  · refine ⟨va, cs, vb, cp, gs, os, gp, op, by rw [length_marks], by rw [length_marksP], by rw [length_marks]; exact HA1.out, StrsAt.only HS1.out HG2.out ?_, by rw [length_marksP]; exact HA3.out, HS2.out, by rw [length_marks, length_marksP]; exact HA5.out⟩
    rw [length_marks]
    rcases HA5.out with h | h | h
    · exact .inr (fun e => h e.1)
    · exact .inl h
    · exact .inr (fun e => e.2 h)
  · refine ((Only.of_below _ HB0.out).trans (HG1.out.mono ?_)).trans (HG2.out.mono ?_)
    · rintro b ⟨rfl, h0⟩
      exact (HA1.out.resolve_left h0).2
    · rintro b ⟨rfl, h0⟩
      exact (HA3.out.resolve_left h0).2

theorem heldDisk_own (lo hi k n m : Nat) (vs vp : Value) (w : World) (h : Own w lo hi vs vp (marks k n) (marksP (k + n) m)) (h1 : n ≤ 1100000) (h2 : m ≤ 1100000) (hk : k ≤ 10000000) :
    Calls Tryz.prog 39 #[.agg #[vs, vp], .int .i64 (k : Int)] w fun e w' => e = .returned (.int .i64 ((k + n + 2 * m : Nat) : Int)) ∧ Below w.heap.size w w' :=
  heldDisk_any vs vp k n m w h.strs h.pends h1 h2 hk

/-! ### what the disk's functions tell -/
/-- What is told, as a value. -/
abbrev outV (vs vp : Value) (t : ByteArray) (c : Int) : Value := .agg #[vs, vp, .string t, .int .i64 c]

end Go.Proofs.YtnfidmjplhmblaaGreatDoor.Harn

/- What the disk's functions tell, as plain data. -/
namespace Go.Proofs.YtnfidmjplhmblaaGreatDoor.Disk
open Go.RowKit Go.Proofs.YtnfidmjplhmblaaGreatDoor.Mem Go.Proofs.YtnfidmjplhmblaaGreatDoor.Harn Go.Proofs.YtnfidmjplhmblaaGreatDoor.DiskP

/-- What is told: the disk's sectors and pending writes, the data, the code. -/
structure Out where
  ls : List ByteArray
  lp : List (Int × ByteArray)
  t : ByteArray
  c : Int
def ill (c : Int) : Out := ⟨[], [], ByteArray.empty, c⟩

/-- A call told o: in memory of its own; nothing old has turned. -/
def Told (w : World) (o : Out) (e : Ending) (w' : World) : Prop := ∃ us up, e = .returned (outV us up o.t o.c) ∧ Own w' w.heap.size w'.heap.size us up o.ls o.lp ∧ Below w.heap.size w w'
/-- A call told a disk. -/
def ToldD (w : World) (ls : List ByteArray) (lp : List (Int × ByteArray)) (e : Ending) (w' : World) : Prop := ∃ us up, e = .returned (.agg #[us, up]) ∧ Own w' w.heap.size w'.heap.size us up ls lp ∧ Below w.heap.size w w'

def newD (n : Int) : List ByteArray := if 1 ≤ n ∧ n ≤ 64 then List.replicate n.toNat ByteArray.empty else []
theorem newD_yes {n : Int} (h1 : 1 ≤ n) (h2 : n ≤ 64) : newD n = List.replicate n.toNat ByteArray.empty := by unfold newD; rw [if_pos ⟨h1, h2⟩]
theorem newD_no {n : Int} (h : n < 1 ∨ 64 < n) : newD n = [] := by unfold newD; rw [if_neg (by omega)]

def readO (ls : List ByteArray) (lp : List (Int × ByteArray)) (x : Int) : Out := if rightB ls lp = true then (if 0 ≤ x ∧ x < ls.length then ⟨ls, lp, readD ls lp x.toNat, 0⟩ else ill 8) else ill 1
theorem readO_form {ls : List ByteArray} {lp : List (Int × ByteArray)} {x : Int} (h : rightB ls lp = false) : readO ls lp x = ill 1 := by unfold readO; rw [h]; rfl
theorem readO_range {ls : List ByteArray} {lp : List (Int × ByteArray)} {x : Int} (h : rightB ls lp = true) (h2 : ¬ (0 ≤ x ∧ x < ls.length)) : readO ls lp x = ill 8 := by unfold readO; rw [if_pos h, if_neg h2]
theorem readO_ok {ls : List ByteArray} {lp : List (Int × ByteArray)} {k : Nat} (h : rightB ls lp = true) (h2 : k < ls.length) : readO ls lp (k : Int) = ⟨ls, lp, readD ls lp k, 0⟩ := by
  unfold readO; rw [if_pos h, if_pos (by omega)]; rfl

def writeO (ls : List ByteArray) (lp : List (Int × ByteArray)) (x : Int) (t : ByteArray) : Out :=
  if 8000 < t.size then ill 2 else if rightB ls lp = false ∨ 64 < t.size then ill 1 else if ¬ (0 ≤ x ∧ x < ls.length) then ill 8 else if lp.length = 200 then ill 9 else ⟨ls, lp ++ [(x, t)], ByteArray.empty, 0⟩
theorem writeO_size {ls : List ByteArray} {lp : List (Int × ByteArray)} {x : Int} {t : ByteArray} (h : 8000 < t.size) : writeO ls lp x t = ill 2 := by unfold writeO; rw [if_pos h]
theorem writeO_form {ls : List ByteArray} {lp : List (Int × ByteArray)} {x : Int} {t : ByteArray} (h : ¬ 8000 < t.size) (h2 : rightB ls lp = false ∨ 64 < t.size) : writeO ls lp x t = ill 1 := by unfold writeO; rw [if_neg h, if_pos h2]
theorem writeO_range {ls : List ByteArray} {lp : List (Int × ByteArray)} {x : Int} {t : ByteArray} (h : ¬ 64 < t.size) (h2 : rightB ls lp = true) (h3 : ¬ (0 ≤ x ∧ x < ls.length)) : writeO ls lp x t = ill 8 := by
  unfold writeO; rw [if_neg (by omega), if_neg (by simp [h2]; omega), if_pos h3]
theorem writeO_full {ls : List ByteArray} {lp : List (Int × ByteArray)} {x : Int} {t : ByteArray} (h : ¬ 64 < t.size) (h2 : rightB ls lp = true) (h3 : 0 ≤ x ∧ x < ls.length) (h4 : lp.length = 200) : writeO ls lp x t = ill 9 := by
  unfold writeO; rw [if_neg (by omega), if_neg (by simp [h2]; omega), if_neg (by simpa using h3), if_pos h4]
theorem writeO_ok {ls : List ByteArray} {lp : List (Int × ByteArray)} {x : Int} {t : ByteArray} (h : ¬ 64 < t.size) (h2 : rightB ls lp = true) (h3 : 0 ≤ x ∧ x < ls.length) (h4 : ¬ lp.length = 200) : writeO ls lp x t = ⟨ls, lp ++ [(x, t)], ByteArray.empty, 0⟩ := by
  unfold writeO; rw [if_neg (by omega), if_neg (by simp [h2]; omega), if_neg (by simpa using h3), if_neg h4]

def flushO (ls : List ByteArray) (lp : List (Int × ByteArray)) : Out := if rightB ls lp = true then ⟨flushD ls lp, [], ByteArray.empty, 0⟩ else ill 1
theorem flushO_form {ls : List ByteArray} {lp : List (Int × ByteArray)} (h : rightB ls lp = false) : flushO ls lp = ill 1 := by unfold flushO; rw [h]; rfl
theorem flushO_ok {ls : List ByteArray} {lp : List (Int × ByteArray)} (h : rightB ls lp = true) : flushO ls lp = ⟨flushD ls lp, [], ByteArray.empty, 0⟩ := by unfold flushO; rw [if_pos h]

/-- What a crash leaves: the sectors, the pending writes. -/
def crashO (ls : List ByteArray) (lp : List (Int × ByteArray)) (kp : List Int) : List ByteArray × List (Int × ByteArray) :=
  if 400 < kp.length then ([], []) else if rightB ls lp = true then (flushD ls (keptD lp kp), []) else (ls, lp)
theorem crashO_size {ls : List ByteArray} {lp : List (Int × ByteArray)} {kp : List Int} (h : 400 < kp.length) : crashO ls lp kp = ([], []) := by unfold crashO; rw [if_pos h]
theorem crashO_form {ls : List ByteArray} {lp : List (Int × ByteArray)} {kp : List Int} (h : ¬ 400 < kp.length) (h2 : rightB ls lp = false) : crashO ls lp kp = (ls, lp) := by unfold crashO; rw [if_neg h, h2]; rfl
theorem crashO_ok {ls : List ByteArray} {lp : List (Int × ByteArray)} {kp : List Int} (h : ¬ 400 < kp.length) (h2 : rightB ls lp = true) : crashO ls lp kp = (flushD ls (keptD lp kp), []) := by unfold crashO; rw [if_neg h, if_pos h2]
end Go.Proofs.YtnfidmjplhmblaaGreatDoor.Disk

/- Boxes of the call's own; what a right disk holds. -/
namespace Go.Proofs.YtnfidmjplhmblaaGreatDoor.Disk
open Go.RowKit Go.Proofs.YtnfidmjplhmblaaGreatDoor.Mem Go.Proofs.YtnfidmjplhmblaaGreatDoor.Harn Go.Proofs.YtnfidmjplhmblaaGreatDoor.DiskP

theorem right_pends {ls : List ByteArray} {lp : List (Int × ByteArray)} (h : rightB ls lp = true) : (∀ y ∈ lp, 0 ≤ y.1 ∧ y.1 < 64) ∧ (∀ y ∈ lp, 0 ≤ y.1 ∧ y.2.size ≤ 2000000) ∧ (∀ t ∈ ls, t.size ≤ 2000000) ∧ 1 ≤ ls.length ∧ ls.length ≤ 64 ∧ lp.length ≤ 200 ∧ ∀ y ∈ lp, y.2.size ≤ 2000000 := by
  obtain ⟨h1, h2, h3, h4, h5⟩ := (right_iff ls lp).1 h
  refine ⟨fun y hy => ?_, fun y hy => ?_, fun t ht => ?_, h1, h2, h3, fun y hy => ?_⟩
  · have := h5 y hy; unfold okP at this; omega
  · have := h5 y hy; unfold okP at this; omega
  · have := h4 t ht; omega
  · have := h5 y hy; unfold okP at this; omega

theorem strs_replicate {W : World} {g n : Nat} {T : TypeId} (h : HasRow W g (List.replicate n (.string ByteArray.empty)) T) : StrsAt W g 0 (List.replicate n ByteArray.empty) := row_strs (T := T) (by simpa using h)

/-- The cells of a disk's box, of a box for what is told. -/
def Box2 (W : World) (g : Nat) (vs vp : Value) : Prop := HasRow W g [vs, vp] 29
def Box4 (W : World) (g : Nat) : Prop := HasRow W g [.slice none 0 0, .slice none 0 0, .string ByteArray.empty, .int .i64 0] 49
theorem Box2.cells {W : World} {g : Nat} {vs vp : Value} (h : Box2 W g vs vp) : W.cell? ⟨g, 0, none⟩ = some vs ∧ W.cell? ⟨g, 1, none⟩ = some vp ∧ (∀ o, W.frozen? ⟨g, o, none⟩ = false) := ⟨Mem.cell_of_row h 0, Mem.cell_of_row h 1, Mem.frozen_of_row h⟩
theorem Box4.cells {W : World} {g : Nat} (h : Box4 W g) : W.cell? ⟨g, 0, none⟩ = some (.slice none 0 0) ∧ W.cell? ⟨g, 1, none⟩ = some (.slice none 0 0) ∧ W.cell? ⟨g, 2, none⟩ = some (.string ByteArray.empty) ∧ W.cell? ⟨g, 3, none⟩ = some (.int .i64 0) ∧ (∀ o, W.frozen? ⟨g, o, none⟩ = false) := ⟨Mem.cell_of_row h 0, Mem.cell_of_row h 1, Mem.cell_of_row h 2, Mem.cell_of_row h 3, Mem.frozen_of_row h⟩
theorem box2_new (w : World) (vs vp : Value) (o : Obj) : Box2 ((w.alloc (.cells #[vs, vp] 29)).alloc o) w.heap.size vs vp := Sha.row_alloc (Sha.row_new w [vs, vp] 29) _
theorem box4_new (w : World) (o : Obj) : Box4 ((w.alloc o).alloc (.cells #[.slice none 0 0, .slice none 0 0, .string ByteArray.empty, .int .i64 0] 49)) (w.heap.size + 1) := Sha.row_new_at (w.alloc _) [.slice none 0 0, .slice none 0 0, .string ByteArray.empty, .int .i64 0] 49 _ (by simp)
theorem Box2.below {W W' : World} {g B : Nat} {vs vp : Value} (h : Box2 W g vs vp) (hb : Below B W W') (hg : g < B) : Box2 W' g vs vp := Sha.row_below h hb hg
theorem Box4.below {W W' : World} {g B : Nat} (h : Box4 W g) (hb : Below B W W') (hg : g < B) : Box4 W' g := Sha.row_below h hb hg

end Go.Proofs.YtnfidmjplhmblaaGreatDoor.Disk

/- What the program's hasSector, copyTexts and copyDisk answer. -/
namespace Go.Proofs.YtnfidmjplhmblaaGreatDoor.Disk
open Go.RowKit Go.Proofs.YtnfidmjplhmblaaGreatDoor.Mem Go.Proofs.YtnfidmjplhmblaaGreatDoor.Harn

theorem has_yes (va : Option Addr) (n c : Nat) (vp : Value) (x : Int) (w : World) (h0 : 0 ≤ x) (h1 : x < n) : Calls Tryz.prog 75 #[.agg #[.slice va n c, vp], .int .i64 x] w fun e w' => e = .returned (.bool true) ∧ Below w.heap.size w w' := by
  go_enter Tryz.func75, Tryz.ntmps75
  go_wp2
  go_ret
  exact ⟨rfl, (Below.refl _ _).alloc (Nat.le_refl _) _⟩
theorem has_no (va : Option Addr) (n c : Nat) (vp : Value) (x : Int) (w : World) (h : x < 0 ∨ (n : Int) ≤ x) : Calls Tryz.prog 75 #[.agg #[.slice va n c, vp], .int .i64 x] w fun e w' => e = .returned (.bool false) ∧ Below w.heap.size w w' := by
  by_cases h0 : x < 0
  · clear h
    go_enter Tryz.func75, Tryz.ntmps75
    go_wp2
    go_ret
    exact ⟨rfl, (Below.refl _ _).alloc (Nat.le_refl _) _⟩
  · have h1 : (n : Int) ≤ x := by omega
    have h2 : 0 ≤ x := by omega
    have h3 : ¬ x < (n : Int) := by omega
    have h4 : decide (x < (n : Int)) = false := decide_eq_false h3
    clear h h0
    go_enter Tryz.func75, Tryz.ntmps75
    go_wp2
    go_ret
    exact ⟨rfl, (Below.refl _ _).alloc (Nat.le_refl _) _⟩

theorem join_empty (t : ByteArray) (w : World) (h : t.size ≤ 2000000) : Calls Tryz.prog 71 #[.string ByteArray.empty, .string t] w fun e w' => e = .returned (.string t) ∧ Below w.heap.size w w' := by
  refine (Join.join_any ByteArray.empty t w (by simp) (by omega)).mono ?_
  rintro e w' ⟨rfl, h2⟩
  exact ⟨by simp, h2⟩

set_option maxHeartbeats 1000000 in
theorem copyTexts_any (v : Value) (l : List ByteArray) (w : World) (h : Strs w v l) (hn : l.length ≤ 1100000) (hs : ∀ t ∈ l, t.size ≤ 2000000) :
    Calls Tryz.prog 72 #[v] w fun e w' => e = .returned (.slice (some ⟨w.heap.size, 0, none⟩) l.length l.length) ∧ HasRow w' w.heap.size (l.map Value.string) 9 ∧ Below w.heap.size w w' ∧ w.heap.size < w'.heap.size := by
  obtain ⟨a, cap, rfl, hc⟩ := h
  have HC : Hid (∀ j (h : j < l.length), ∃ b o, a = some ⟨b, o, none⟩ ∧ w.cell? ⟨b, o + j, none⟩ = some (.string l[j])) := hc
  have HSS : Hid (∀ t ∈ l, t.size ≤ 2000000) := hs
  obtain ⟨W1, hmk, hr1, hb1, hz1⟩ := make_strs l.length (by omega) w
  have HR : Hid _ := hr1
  have HB : Hid (Below w.heap.size w W1) := hb1
  have HZ : Hid (w.heap.size < W1.heap.size) := by unfold Hid; omega
  clear hc hr1 hb1 hz1 hs
  go_enter Tryz.func72, Tryz.ntmps72
  go_wp2
  go_loopw [11] (fun i wr => ∃ k : Nat, k ≤ l.length ∧ i = .int .i64 k ∧ HasRow wr w.heap.size (copyTo l k) 9 ∧ Below w.heap.size w wr ∧ w.heap.size < wr.heap.size) (fun i _ => l.length - (intOf i).toNat)
  case atStart => exact ⟨0, by omega, rfl, by rw [copyTo_start]; exact HR.out, HB.out, HZ.out⟩
  case round =>
    clear HR HB HZ
    obtain ⟨k, hk, rfl, hrow, hbel, hsz⟩ := hrel
    by_cases hlt : k < l.length
    · obtain ⟨b, o, rfl, hcell⟩ := HC.out k hlt
      have c1 : wr.cell? ⟨b, o + k, none⟩ = some (.string l[k]) := by rw [hbel.cell (World.block_lt_of_cell? w _ hcell)]; exact hcell
      have HJ : Hid (∀ W, Calls Tryz.prog 71 #[.string ByteArray.empty, .string l[k]] W fun e w' => e = .returned (.string l[k]) ∧ Below W.heap.size W w') := fun W => join_empty _ W (HSS.out _ (List.getElem_mem hlt))
      have HSET : Hid ((copyTo l k).set k (.string l[k]) = copyTo l (k + 1)) := copyTo_set l k hlt
      have HCEL : Hid ((copyTo l k)[k]? = some (.string ByteArray.empty)) := copyTo_cell l k hlt
      have HROW : Hid (HasRow wr w.heap.size (copyTo l k) 9) := hrow
      have HBEL : Hid (Below w.heap.size w wr) := hbel
      have p1 : (k : Int) < (l.length : Int) := by omega
      generalize l[k] = t at *
      clear hrow hcell hbel
      go_wp2_with (go_at_call 71; refine (HJ.out _).mono ?_; rintro e w1 ⟨rfl, hb1⟩; have hr1 : HasRow w1 w.heap.size (copyTo l k) 9 := Sha.row_below HROW.out hb1 hsz; have c2 : w1.cell? ⟨w.heap.size, k, none⟩ = some (.string ByteArray.empty) := (Mem.cell_of_row hr1 k).trans HCEL.out; have hfz := Mem.frozen_of_row hr1 k; have HR1 : Hid _ := hr1; have HB1 : Hid _ := hb1; have hz1 := hb1.size; clear hr1 hb1)
      go_roundw
      case rel => exact ⟨k + 1, by omega, by go_num, by rw [← HSET.out]; exact row_set HR1.out _ _, (HBEL.out.trans (HB1.out.mono HBEL.out.size)).setCell (p := ⟨w.heap.size, k, none⟩) (Nat.le_refl _) _, by simp; omega⟩
      case measure => simp [intOf]; omega
    · have e : k = l.length := by omega
      subst e
      rw [copyTo_end] at hrow
      have HR : Hid _ := hrow
      have HB : Hid (Below w.heap.size w wr) := hbel
      clear hrow hbel
      go_wp2
      go_ret
      exact ⟨rfl, HR.out, HB.out, hsz⟩
end Go.Proofs.YtnfidmjplhmblaaGreatDoor.Disk
