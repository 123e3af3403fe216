/- Laws that the proof rests on, put together: A disk that came in, opened: its sectors and its pending writes. What the laws' own functions on disks answer. A map of pending writes by their places, told by what stands at each place. -/
import Derived.Test.YtnfidmjplhmblaaGreatDoorHarnPend2
import Derived.ProofKit
import Derived.OpenShut
import Derived.SliceStrings
import Derived.Deep.SlicePairs
import Derived.Lib.SmallJoins
import Derived.Test.YtnfidmjplhmblaaGreatDoorTextsA
import Derived.Maps.OwnSet
/- A disk that came in, opened: its sectors and its pending writes. -/
namespace Go.Proofs.YtnfidmjplhmblaaGreatDoor.Harn
open Go.ChangeShapes Go.WideShapes Go.ChangeAt Go.RowKit Go.Deep
variable {H : Type} {enc : TypeId × Value → H}

theorem at_none {W : World} {a : Addr} {v : Value} (h : W.cell? (a.add 0) = some v) : a = ⟨a.block, a.off, none⟩ ∧ ∀ j, a.add j = ⟨a.block, a.off + j, none⟩ := by
  have hs : a.spot = none := by simpa [Addr.add] using World.cell?_spot h
  obtain ⟨b, o, s⟩ := a
  simp only at hs
  subst hs
  refine ⟨rfl, fun j => ?_⟩
  unfold Addr.add
  split <;> simp_all

theorem open_strs_at {P : Program} {t e : TypeId} {W : World} {sp : Nat → Bool} {fuel : Nat} {v : Value} {x : DataW H × List MemPlace} (ht : P.underlying t = some (.slice e)) (he : P.underlying e = some .string) (hc : P.cellsOf e = 1)
    (h : DataW.trod enc P W 0 sp true fuel t [v] = some x) : ∃ l, Strs W v l ∧ l.length ≤ maxLen ∧ ∀ t ∈ l, t.size ≤ maxLen := by
  rcases open_strings ht he hc h with ⟨hcs, _⟩ | ⟨a, len, cap, ss, hcs, _, hl, hm, hz, _, hcell, hsz⟩
  · simp at hcs
    exact ⟨[], ⟨none, 0, hcs, fun j hj => by simp at hj⟩, by simp, by simp⟩
  · simp at hcs
    have hls : len ≤ ss.length := by rw [hz]; split <;> omega
    have hlt : (ss.take len).length = len := by simp; omega
    refine ⟨ss.take len, ⟨some a, cap, by rw [hlt]; exact hcs, fun j hj => ?_⟩, by omega, fun t ht => hsz t (List.mem_of_mem_take ht)⟩
    have hj2 : j < len := by omega
    have hcj := hcell j (by omega)
    obtain ⟨e1, e2⟩ := at_none (hcell 0 (by omega))
    refine ⟨a.block, a.off, by rw [← e1], ?_⟩
    rw [← e2 j, hcj]
    simp [List.getD, List.getElem?_eq_getElem (show j < ss.length by omega)]

def strV : Value → ByteArray | .string s => s | _ => ByteArray.empty

theorem open_pends_at {P : Program} {t e : TypeId} {f0 f1 : Field} {W : World} {sp : Nat → Bool} {fuel : Nat} {v : Value} {x : DataW H × List MemPlace} (ht : P.underlying t = some (.slice e)) (he : P.underlying e = some (.struct #[f0, f1]))
    (ce : P.cellsOf e = 2) (o0 : f0.offset = 0) (o1 : f1.offset = 1) (c0 : P.cellsOf f0.type = 1) (c1 : P.cellsOf f1.type = 1) (u0 : P.underlying f0.type = some (.int .i64)) (u1 : P.underlying f1.type = some .string)
    (h : DataW.trod enc P W 0 sp true fuel t [v] = some x) : ∃ l, Pends W v l ∧ l.length ≤ maxLen ∧ ∀ y ∈ l, y.2.size ≤ maxLen ∧ -9223372036854775808 ≤ y.1 ∧ y.1 ≤ 9223372036854775807 := by
  rcases open_slice_pairs ht he ce o0 o1 c0 c1 h with ⟨hcs, _⟩ | ⟨a, len, cap, m, n, V0, V1, D0, D1, P0, P1, hcs, _, hl, hm, hmm, _, hx⟩
  · simp at hcs
    exact ⟨[], ⟨none, 0, hcs, fun j hj => by simp at hj⟩, by simp, by simp⟩
  · simp at hcs
    have hlm : len ≤ m := by rw [hmm]; split <;> omega
    have each : ∀ i, i < len → ∃ k s, V0 i = .int .i64 k ∧ V1 i = .string s ∧ s.size ≤ maxLen ∧ (Lit.int .i64 k).wf = true := by
      intro i hi
      obtain ⟨_, _, h3, h4⟩ := hx i (by omega)
      obtain ⟨k, e1, _, hw⟩ := DataW.trod_int u0 h3
      obtain ⟨s, e2, _, hs⟩ := DataW.trod_string u1 h4
      simp at e1 e2
      exact ⟨k, s, e1, e2, hs, hw⟩
    refine ⟨(List.range len).map fun i => (intOf (V0 i), strV (V1 i)), ⟨some a, cap, by simpa using hcs, fun j hj => ?_⟩, by simp; omega, fun y hy => ?_⟩
    · have hj2 : j < len := by simpa using hj
      obtain ⟨h1, h2, _, _⟩ := hx j (by omega)
      obtain ⟨k, s, e1, e2, _, _⟩ := each j hj2
      obtain ⟨a1, a2⟩ := at_none (by have := (hx 0 (by omega)).1; simpa using this)
      refine ⟨a.block, a.off, by rw [← a1], ?_, ?_⟩
      · rw [← a2, h1]; simp [e1, intOf]
      · rw [Nat.add_assoc, ← a2, h2]; simp [e2, strV]
    · simp only [List.mem_map, List.mem_range] at hy
      obtain ⟨i, hi, rfl⟩ := hy
      obtain ⟨k, s, e1, e2, hs, hw⟩ := each i hi
      have hb := bounds_i64 hw
      exact ⟨by simp [e2, strV, hs], by simp [e1, intOf]; exact hb.1, by simp [e1, intOf]; exact hb.2⟩

set_option maxRecDepth 100000 in
theorem open_disk {W : World} {b0 : Nat} {v : Value} {d : DataW H} {ps : List MemPlace} (hv : Value.okWide Tryz.prog W .any b0 25 v) (h : DataW.Trod enc Tryz.prog W 0 (fun _ => true) true 25 v d ps) :
    ∃ (vs vp : Value) (ls : List ByteArray) (lp : List (Int × ByteArray)), v = .agg #[vs, vp] ∧ Strs W vs ls ∧ ls.length ≤ maxLen ∧ (∀ t ∈ ls, t.size ≤ maxLen) ∧ Pends W vp lp ∧ lp.length ≤ maxLen ∧ ∀ y ∈ lp, y.2.size ≤ maxLen ∧ -9223372036854775808 ≤ y.1 ∧ y.1 ≤ 9223372036854775807 := by
  obtain ⟨v0, v1, y0, y1, n, rfl, _, _, h0, h1⟩ := Joins.open_agg2 Tryz.underlying25 (by kernel_rfl) (by kernel_rfl) hv h
  obtain ⟨ls, s1, s2, s3⟩ := open_strs_at Tryz.underlying22 Tryz.underlying9 (by kernel_rfl) h0
  obtain ⟨lp, p1, p2, p3⟩ := open_pends_at Tryz.underlying23 Tryz.underlying74 (by kernel_rfl) rfl rfl (by kernel_rfl) (by kernel_rfl) Tryz.underlying2 Tryz.underlying9 h1
  exact ⟨v0, v1, ls, lp, rfl, s1, s2, s3, p1, p2, p3⟩
end Go.Proofs.YtnfidmjplhmblaaGreatDoor.Harn

/- What the laws' own functions on disks answer. -/
namespace Go.Proofs.YtnfidmjplhmblaaGreatDoor.Harn
open Go.RowKit Go.Proofs.YtnfidmjplhmblaaGreatDoor.Mem Go.Proofs.YtnfidmjplhmblaaGreatDoor.Mark

theorem row_strs {W : World} {g : Nat} {l : List ByteArray} {T : TypeId} (h : HasRow W g (l.map Value.string) T) : StrsAt W g 0 l := fun j hj => by
  refine ⟨?_, by rw [Mem.frozen_of_row h]⟩
  rw [Mem.cell_of_row h]
  simp [hj]

theorem PendsAt.other {W : World} {g o : Nat} {l : List (Int × ByteArray)} (h : PendsAt W g o l) {a : Addr} (ha : a.block ≠ g) (v : Value) : PendsAt (W.setCell a v) g o l := fun j hj => by
  obtain ⟨h1, h2, h3, h4⟩ := h j hj
  refine ⟨?_, ?_, by simpa using h3, by simpa using h4⟩
  · rw [World.cell?_setCell_other _ _ _ _ (by intro e; exact ha (by rw [e]))]; exact h1
  · rw [World.cell?_setCell_other _ _ _ _ (by intro e; exact ha (by rw [e]))]; exact h2

set_option maxHeartbeats 1000000 in
theorem toDisk_any (vs vp : Value) (ls : List ByteArray) (lp : List (Int × ByteArray)) (w : World) (hs : Strs w vs ls) (hp : Pends w vp lp) (h1 : ls.length ≤ 1100000) (h2 : lp.length ≤ 1100000) :
    Calls Tryz.prog 6 #[.agg #[vs, vp]] w fun e w' => ∃ gs gp, e = .returned (.agg #[.slice (some ⟨gs, 0, none⟩) ls.length ls.length, .slice (some ⟨gp, 0, none⟩) lp.length lp.length]) ∧ StrsAt w' gs 0 ls ∧ PendsAt w' gp 0 lp ∧ w.heap.size ≤ gs ∧ gs < gp ∧ gp < w'.heap.size ∧ Below w.heap.size w w' := by
  have HS : Hid (Strs w vs ls) := hs
  have HP : Hid (Pends w vp lp) := hp
  clear hs hp
  go_enter Tryz.func6, Tryz.ntmps6
  go_wp2_with fail
  have hB0 : Below w.heap.size w (((w.alloc (Obj.cells #[vs, vp] 25)).alloc (Obj.cells #[Value.slice none 0 0, Value.slice none 0 0] 29)).alloc (Obj.cells #[Value.slice none 0 0, Value.slice none 0 0] 29)) := (((Below.refl _ _).alloc (Nat.le_refl _) _).alloc (by simp) _).alloc (by simp; omega) _
  refine (toStr_any vs ls _ (Strs.below HS.out hB0) h1).mono ?_
  rintro e w1 ⟨rfl, hr1, hb1, hz1⟩
  simp at hz1 hr1
  have r2 : HasRow w1 (w.heap.size + 1 + 1) [Value.slice none 0 0, Value.slice none 0 0] 29 := Sha.row_below (Sha.row_new_at ((w.alloc _).alloc _) [Value.slice none 0 0, Value.slice none 0 0] 29 _ (by simp)) hb1 (by simp)
  have r1 : HasRow w1 (w.heap.size + 1) [Value.slice none 0 0, Value.slice none 0 0] 29 := Sha.row_below (Sha.row_alloc (Sha.row_new_at (w.alloc _) [Value.slice none 0 0, Value.slice none 0 0] 29 _ (by simp)) _) hb1 (by simp)
  have r0 : HasRow w1 w.heap.size [vs, vp] 25 := Sha.row_below (Sha.row_alloc (Sha.row_alloc (Sha.row_new w [vs, vp] 25) _) _) hb1 (by simp; omega)
  have a20 : w1.cell? ⟨w.heap.size + 1 + 1, 0, none⟩ = some (.slice none 0 0) := Mem.cell_of_row r2 0
  have a21 : w1.cell? ⟨w.heap.size + 1 + 1, 1, none⟩ = some (.slice none 0 0) := Mem.cell_of_row r2 1
  have a10 : w1.cell? ⟨w.heap.size + 1, 0, none⟩ = some (.slice none 0 0) := Mem.cell_of_row r1 0
  have a11 : w1.cell? ⟨w.heap.size + 1, 1, none⟩ = some (.slice none 0 0) := Mem.cell_of_row r1 1
  have a01 : w1.cell? ⟨w.heap.size, 1, none⟩ = some vp := Mem.cell_of_row r0 1
  have b2 : ∀ o, w1.frozen? ⟨w.heap.size + 1 + 1, o, none⟩ = false := fun o => Mem.frozen_of_row r2 o
  have b1 : ∀ o, w1.frozen? ⟨w.heap.size + 1, o, none⟩ = false := fun o => Mem.frozen_of_row r1 o
  clear r2 r1 r0
  have HR1 : Hid _ := hr1
  have HB1 : Hid (Below w.heap.size w w1) := hB0.trans (hb1.mono (by simp; omega))
  have HZ1 : Hid (w1.heap.size = w.heap.size + 1 + 1 + 1 + 1) := hz1
  have hl1 : w.heap.size + 3 < w1.heap.size := by omega
  clear hr1 hb1 hz1 hB0
  go_wp2_with fail
  have hB1 : Below w.heap.size w (w1.setCell ⟨w.heap.size + 1 + 1, 0, none⟩ (.slice (some ⟨w.heap.size + 1 + 1 + 1, 0, none⟩) ls.length ls.length)) := HB1.out.setCell (by simp; omega) _
  refine (toPend_any vp lp _ (Pends.below HP.out hB1) h2).mono ?_
  rintro e w2 ⟨rfl, hr2, hb2, hz2⟩
  obtain ⟨hcc2, hff2⟩ := bcell hb2
  simp at hcc2 hff2 hz2 hr2
  have d20 : w2.cell? ⟨w.heap.size + 1 + 1, 0, none⟩ = some (.slice (some ⟨w.heap.size + 1 + 1 + 1, 0, none⟩) ls.length ls.length) := by rw [hcc2 _ _ (by omega)]; exact World.cell?_setCell_same _ _ _ a20
  have d21 : w2.cell? ⟨w.heap.size + 1 + 1, 1, none⟩ = some (.slice none 0 0) := by rw [hcc2 _ _ (by omega), World.cell?_setCell_other _ _ _ _ (by intro e; injection e with _ e2 _; omega)]; exact a21
  have d10 : w2.cell? ⟨w.heap.size + 1, 0, none⟩ = some (.slice none 0 0) := by rw [hcc2 _ _ (by omega), World.cell?_setCell_other _ _ _ _ (by intro e; injection e with e2 _ _; omega)]; exact a10
  have d11 : w2.cell? ⟨w.heap.size + 1, 1, none⟩ = some (.slice none 0 0) := by rw [hcc2 _ _ (by omega), World.cell?_setCell_other _ _ _ _ (by intro e; injection e with e2 _ _; omega)]; exact a11
  have g2 : ∀ o, w2.frozen? ⟨w.heap.size + 1 + 1, o, none⟩ = false := fun o => by rw [hff2 _ _ (by omega)]; simpa using b2 o
  have g1 : ∀ o, w2.frozen? ⟨w.heap.size + 1, o, none⟩ = false := fun o => by rw [hff2 _ _ (by omega)]; simpa using b1 o
  clear hcc2 hff2 a20 a21 a10 a11 a01 b1 b2
  have HR2 : Hid _ := hr2
  have HB2 : Hid (Below w.heap.size w w2) := hB1.trans (hb2.mono (by simp; omega))
  have HR3 : Hid (HasRow w2 (w.heap.size + 1 + 1 + 1) (ls.map Value.string) 9) := by
    have h3 : HasRow (w1.setCell ⟨w.heap.size + 1 + 1, 0, none⟩ (.slice (some ⟨w.heap.size + 1 + 1 + 1, 0, none⟩) ls.length ls.length)) (w.heap.size + 1 + 1 + 1) (ls.map Value.string) 9 := by
      unfold HasRow
      rw [Below.heap_setCell _ _ _ _ (by simp)]
      exact HR1.out
    unfold Hid HasRow
    rw [hb2.block _ (by simp; omega)]
    exact h3
  clear hr2 hb2 hB1
  go_wp2_with fail
  refine bodyPost_ret (v := .agg #[.slice (some ⟨w.heap.size + 1 + 1 + 1, 0, none⟩) ls.length ls.length, .slice (some ⟨w1.heap.size, 0, none⟩) lp.length lp.length]) (by simp [results, Tryz.results6, go_sem, d10, d11]) rfl ⟨_, _, rfl, ?_, ?_, by omega, by omega, ?_, ?_⟩
  · exact row_strs (Sha.row_other (Sha.row_other (Sha.row_other HR3.out _ _ (by simp)) _ _ (by simp; omega)) _ _ (by simp; omega))
  · exact ((PendsAt.other HR2.out (by simp; omega) _).other (by simp; omega) _).other (by simp; omega) _
  · simp; exact hz2
  · exact ((HB2.out.setCell (p := ⟨w.heap.size + 1 + 1, 1, none⟩) (by simp; omega) _).setCell (p := ⟨w.heap.size + 1, 0, none⟩) (by simp) _).setCell (p := ⟨w.heap.size + 1, 1, none⟩) (by simp) _

set_option maxHeartbeats 1000000 in
theorem eqDisk_any (vs vp us up : Value) (ls : List ByteArray) (lp : List (Int × ByteArray)) (w : World) (hs : Strs w vs ls) (hp : Pends w vp lp) (ks : Strs w us ls) (kp : Pends w up lp) (h1 : ls.length ≤ 1100000) (h2 : lp.length ≤ 1100000) :
    Calls Tryz.prog 9 #[.agg #[vs, vp], .agg #[us, up]] w fun e w' => e = .returned (.bool true) ∧ Below w.heap.size w w' := by
  have hB0 : Below w.heap.size w ((w.alloc (Obj.cells #[vs, vp] 29)).alloc (Obj.cells #[us, up] 29)) := ((Below.refl _ _).alloc (Nat.le_refl _) _).alloc (by simp) _
  have H2 : Hid (Strs ((w.alloc (Obj.cells #[vs, vp] 29)).alloc (Obj.cells #[us, up] 29)) vs ls) := Strs.below hs hB0
  have H3 : Hid (Strs ((w.alloc (Obj.cells #[vs, vp] 29)).alloc (Obj.cells #[us, up] 29)) us ls) := Strs.below ks hB0
  have H4 : Hid (∀ n, Pends (((w.alloc (Obj.cells #[vs, vp] 29)).alloc (Obj.cells #[us, up] 29)).drewN n) vp lp) := fun n => Pends.below hp (Sha.bel_drewN hB0 n)
  have H5 : Hid (∀ n, Pends (((w.alloc (Obj.cells #[vs, vp] 29)).alloc (Obj.cells #[us, up] 29)).drewN n) up lp) := fun n => Pends.below kp (Sha.bel_drewN hB0 n)
  have HB0 : Hid (∀ n, Below w.heap.size w (((w.alloc (Obj.cells #[vs, vp] 29)).alloc (Obj.cells #[us, up] 29)).drewN n)) := fun n => Sha.bel_drewN hB0 n
  clear hs hp ks kp hB0
  go_enter Tryz.func9, Tryz.ntmps9
  go_wp2_with (first
    | (go_at_call 35; refine (eqStr_any _ _ ls _ H2.out H3.out h1).mono ?_; rintro e w1 ⟨rfl, n, rfl⟩)
    | (go_at_call 36; refine (eqPend_any _ _ lp _ (H4.out n) (H5.out n) h2).mono ?_; rintro e w2 ⟨rfl, hb2⟩))
  go_ret
  exact ⟨rfl, (HB0.out n).trans (hb2.mono (HB0.out n).size)⟩
end Go.Proofs.YtnfidmjplhmblaaGreatDoor.Harn

/- A map of pending writes by their places, told by what stands at each place. -/
namespace Go.Proofs.YtnfidmjplhmblaaGreatDoor.Disk
open Go.RowKit Go.Proofs.YtnfidmjplhmblaaGreatDoor.Mem Go.Proofs.YtnfidmjplhmblaaGreatDoor.Harn Go.Maps

/-- A pending write as a value, and as it is read. -/
def pv (y : Int × ByteArray) : Value := .agg #[.int .i64 y.1, .string y.2]
def pd (y : Int × ByteArray) : DataW Unit := .agg [.lit (.int .i64 y.1), .lit (.string y.2.data.toList)]
def pendElem (v : Value) : Option (DataW Unit × List MemPlace) := match v with
  | .agg cs => (match cs.toList with
    | [.int .i64 a, .string s] => some (pd (a, s), [])
    | _ => none)
  | _ => none
theorem pendElem_mk (y : Int × ByteArray) : pendElem (pv y) = some (pd y, []) := rfl
theorem pendElem_inv {v : Value} {y : Int × ByteArray} {ps : List MemPlace} (h : pendElem v = some (pd y, ps)) : v = pv y := by
  unfold pendElem at h
  split at h
  · rename_i cs
    split at h
    · rename_i a s e
      simp only [Option.some.injEq, Prod.mk.injEq, pd, DataW.agg.injEq, List.cons.injEq, DataW.lit.injEq, Lit.int.injEq, Lit.string.injEq, true_and, and_true] at h
      obtain ⟨⟨h1, h2⟩, _⟩ := h
      have e2 : s = y.2 := ByteArray.ext (Array.toList_inj.1 h2)
      have e3 : cs = #[.int .i64 a, .string s] := Array.toList_inj.1 e
      rw [e3, h1, e2]
      rfl
    · cases h
  · cases h

def zp : Int × ByteArray := (0, ByteArray.empty)
theorem zeroP (w : World) : (zeroValue 76).run Tryz.prog w = .ok (pv zp) w := by kernel_rfl
theorem keyLaw : Keyed Tryz.prog 2 := int_keyed Tryz.underlying2
theorem keyI {x : Int} (h : (Lit.int .i64 x).wf = true) : keyOf Tryz.prog 2 (.int .i64 x) = some (.int .i64 x) := keyOf_int_mk Tryz.underlying2 h

/-- Block b is a map that has at each place x what f says. -/
def HasMap (W : World) (b n : Nat) (f : Int → Option (Int × ByteArray)) : Prop :=
  ∃ D : DataW Unit, W.ownsMap Tryz.prog 2 pendElem b n D ∧ ∀ x, (Lit.int .i64 x).wf = true → Maps.has D (.int .i64 x) = (f x).isSome ∧ ∀ z, D.atKey (.int .i64 x) z = (match f x with | some y => pd y | none => z)

theorem HasMap.lt {W : World} {b n : Nat} {f : Int → Option (Int × ByteArray)} (h : HasMap W b n f) : b < W.heap.size := by
  obtain ⟨D, h, _⟩ := h
  exact h.lt
theorem HasMap.kept {W W' : World} {b n : Nat} {f : Int → Option (Int × ByteArray)} (h : HasMap W b n f) (hb : W'.heap[b]? = W.heap[b]?) : HasMap W' b n f := by
  obtain ⟨D, ⟨es, clock, h1, h2⟩, h3⟩ := h
  exact ⟨D, ⟨es, clock, hb.trans h1, h2⟩, h3⟩
theorem map_made (w : World) : HasMap (w.alloc (.map #[] 0)) w.heap.size 0 (fun _ => none) :=
  ⟨.map [], World.ownsMap_made _ _ _ _, fun _ _ => ⟨rfl, fun _ => rfl⟩⟩

theorem map_look {W : World} {b n : Nat} {f : Int → Option (Int × ByteArray)} (h : HasMap W b n f) {x : Int} (hx : (Lit.int .i64 x).wf = true) :
    (Instr.lookup 115 (.map (some b)) (.int .i64 x) true).run Tryz.prog W = .ok (.tuple #[pv ((f x).getD zp), .bool (f x).isSome]) W := by
  obtain ⟨D, hD, hf⟩ := h
  obtain ⟨v, ps, hr, hv⟩ := hD.look_ok keyLaw Tryz.underlying115 (zeroP W) (pendElem_mk zp) (keyI hx)
  obtain ⟨h1, h2⟩ := hf x hx
  rw [h2 (pd zp)] at hv
  rw [hr, h1]
  cases e : f x with
  | none => rw [e] at hv; rw [pendElem_inv hv]; rfl
  | some y => rw [e] at hv; rw [pendElem_inv hv]; rfl

set_option maxRecDepth 100000 in
theorem map_store {W : World} {b n : Nat} {f : Int → Option (Int × ByteArray)} (h : HasMap W b n f) (hn : n < maxLen) {x : Int} (hx : (Lit.int .i64 x).wf = true) (y : Int × ByteArray) :
    ∃ W', (Instr.mapUpdate 115 (.map (some b)) (.int .i64 x) (pv y)).run Tryz.prog W = .ok () W' ∧ HasMap W' b (n + 1) (fun z => if x = z then some y else f z) ∧ W.grownBy W' (some b) := by
  obtain ⟨D, hD, hf⟩ := h
  obtain ⟨W', hr, h1, h2⟩ := hD.update keyLaw Tryz.underlying115 hn (keyI hx) (pendElem_mk y)
  refine ⟨W', hr, ⟨_, h1, fun z hz => ?_⟩, h2⟩
  by_cases e : x = z
  · subst e
    refine ⟨by simpa using has_put_same hD.isMap (keyLaw.key (keyI hx)) _, fun d => ?_⟩
    rw [atKey_put_same hD.isMap (keyLaw.key (keyI hx))]
    simp
  · have e2 : (Lit.int .i64 z : Lit) ≠ .int .i64 x := fun h => e (by injection h with _ h2; exact h2.symm)
    refine ⟨?_, fun d => ?_⟩
    · rw [has_put_other e2, (hf z hz).1]; simp [e]
    · rw [atKey_put_other e2, (hf z hz).2 d]; simp [e]

set_option maxRecDepth 100000 in
theorem map_drop {W : World} {b n : Nat} {f : Int → Option (Int × ByteArray)} (h : HasMap W b n f) {x : Int} (hx : (Lit.int .i64 x).wf = true) (ty : TypeId) :
    ∃ W', (Builtin.delete_ #[115, 2] ty #[.map (some b), .int .i64 x]).run Tryz.prog W = .ok (.tuple #[]) W' ∧ HasMap W' b n (fun z => if x = z then none else f z) ∧ W.grownBy W' (some b) := by
  obtain ⟨D, hD, hf⟩ := h
  obtain ⟨W', hr, h1, h2⟩ := hD.drop keyLaw Tryz.underlying115 (keyI hx) ty
  refine ⟨W', hr, ⟨_, h1, fun z hz => ?_⟩, h2.grown⟩
  by_cases e : x = z
  · subst e
    refine ⟨by simpa using has_del_same, fun d => ?_⟩
    rw [atKey_del_same]
    simp
  · have e2 : (Lit.int .i64 z : Lit) ≠ .int .i64 x := fun h => e (by injection h with _ h2; exact h2.symm)
    refine ⟨?_, fun d => ?_⟩
    · rw [has_del_other e2, (hf z hz).1]; simp [e]
    · rw [atKey_del_other e2, (hf z hz).2 d]; simp [e]

/-! ### at the operation, for the walk -/
section
variable (w : World) {ops : Array Oper} {rest : List Oper} {o : Oper} {a : Act} {Q : Exit → Act → World → Prop}
theorem wp_map_store (hg : o.guard = none) (m x v : Operand) (hop : o.op = Op.mapUpdate 115 m x v) (b n : Nat) (f : Int → Option (Int × ByteArray)) (h : HasMap w b n f) (hn : n < maxLen) (k : Int) (y : Int × ByteArray)
    (hm : a.eval m = .map (some b)) (hx : a.eval x = .int .i64 k) (hv : a.eval v = pv y) (hk : (Lit.int .i64 k).wf = true)
    (hK : ∀ w', HasMap w' b (n + 1) (fun z => if k = z then some y else f z) → w.grownBy w' (some b) → wpList Tryz.prog ops Q rest (a.put o.dst undef) w') : wpList Tryz.prog ops Q (o :: rest) a w := by
  refine wpList_plain hg fun K' hK' => ?_
  obtain ⟨w', hrun, r1, r2⟩ := map_store h hn hk y
  unfold Oper.wp
  simp [execOp, hop, hm, hx, hv, hrun, Result.andThen]
  exact hK' _ _ (hK w' r1 r2)
theorem wp_map_drop (hg : o.guard = none) (m x : Operand) (hop : o.op = Op.call { callee := Callee.builtin Builtin.delete, args := #[m, x], argTypes := #[115, 2] }) (b n : Nat) (f : Int → Option (Int × ByteArray)) (h : HasMap w b n f) (k : Int)
    (hm : a.eval m = .map (some b)) (hx : a.eval x = .int .i64 k) (hk : (Lit.int .i64 k).wf = true)
    (hK : ∀ w', HasMap w' b n (fun z => if k = z then none else f z) → w.grownBy w' (some b) → wpList Tryz.prog ops Q rest (a.put o.dst (.tuple #[])) w') : wpList Tryz.prog ops Q (o :: rest) a w := by
  refine wpList_plain hg fun K' hK' => ?_
  obtain ⟨w', hrun, r1, r2⟩ := map_drop h hk o.type
  unfold Oper.wp
  simp [execOp, hop, resolve, invoke, builtin, hm, hx, hrun, Result.andThen]
  exact hK' _ _ (hK w' r1 r2)
end
end Go.Proofs.YtnfidmjplhmblaaGreatDoor.Disk
