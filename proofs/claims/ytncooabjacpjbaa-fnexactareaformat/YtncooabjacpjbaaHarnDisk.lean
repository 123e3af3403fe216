/- What the laws' own functions on disks answer. -/
import Derived.Test.YtncooabjacpjbaaOpenDisk
import Derived.Test.YtncooabjacpjbaaRowLaws
namespace Go.Proofs.Ytncooabjacpjbaa.Harn
open Go.RowKit Go.Proofs.Ytncooabjacpjbaa.Mem Go.Proofs.Ytncooabjacpjbaa.Mark

theorem row_strs {W : World} {g : Nat} {l : List ByteArray} {T : TypeId} (h : HasRow W g (l.map Value.string) T) : StrsAt W g 0 l := fun j hj => by
  refine ⟨?_, by rw [Mem.frozen_of_row h]⟩
  rw [Mem.cell_of_row h]
  simp [hj]

theorem PendsAt.other {W : World} {g o : Nat} {l : List (Int × ByteArray)} (h : PendsAt W g o l) {a : Addr} (ha : a.block ≠ g) (v : Value) : PendsAt (W.setCell a v) g o l := fun j hj => by
  obtain ⟨h1, h2, h3, h4⟩ := h j hj
  refine ⟨?_, ?_, by simpa using h3, by simpa using h4⟩
  · rw [World.cell?_setCell_other _ _ _ _ (by intro e; exact ha (by rw [e]))]; exact h1
  · rw [World.cell?_setCell_other _ _ _ _ (by intro e; exact ha (by rw [e]))]; exact h2

set_option maxHeartbeats 1000000 in
theorem toDisk_any (vs vp : Value) (ls : List ByteArray) (lp : List (Int × ByteArray)) (w : World) (hs : Strs w vs ls) (hp : Pends w vp lp) (h1 : ls.length ≤ 1100000) (h2 : lp.length ≤ 1100000) :
    Calls Try.prog 7 #[.agg #[vs, vp]] w fun e w' => ∃ gs gp, e = .returned (.agg #[.slice (some ⟨gs, 0, none⟩) ls.length ls.length, .slice (some ⟨gp, 0, none⟩) lp.length lp.length]) ∧ StrsAt w' gs 0 ls ∧ PendsAt w' gp 0 lp ∧ w.heap.size ≤ gs ∧ gs < gp ∧ gp < w'.heap.size ∧ Below w.heap.size w w' := by
  have HS : Hid (Strs w vs ls) := hs
  have HP : Hid (Pends w vp lp) := hp
  clear hs hp
  go_enter Try.func7, Try.ntmps7
  go_wp2_with fail
  have hB0 : Below w.heap.size w (((w.alloc (Obj.cells #[vs, vp] 25)).alloc (Obj.cells #[Value.slice none 0 0, Value.slice none 0 0] 30)).alloc (Obj.cells #[Value.slice none 0 0, Value.slice none 0 0] 30)) := (((Below.refl _ _).alloc (Nat.le_refl _) _).alloc (by simp) _).alloc (by simp; omega) _
  refine (toStr_any vs ls _ (Strs.below HS.out hB0) h1).mono ?_
  rintro e w1 ⟨rfl, hr1, hb1, hz1⟩
  simp at hz1 hr1
  have r2 : HasRow w1 (w.heap.size + 1 + 1) [Value.slice none 0 0, Value.slice none 0 0] 30 := Sha.row_below (Sha.row_new_at ((w.alloc _).alloc _) [Value.slice none 0 0, Value.slice none 0 0] 30 _ (by simp)) hb1 (by simp)
  have r1 : HasRow w1 (w.heap.size + 1) [Value.slice none 0 0, Value.slice none 0 0] 30 := Sha.row_below (Sha.row_alloc (Sha.row_new_at (w.alloc _) [Value.slice none 0 0, Value.slice none 0 0] 30 _ (by simp)) _) hb1 (by simp)
  have r0 : HasRow w1 w.heap.size [vs, vp] 25 := Sha.row_below (Sha.row_alloc (Sha.row_alloc (Sha.row_new w [vs, vp] 25) _) _) hb1 (by simp; omega)
  have a20 : w1.cell? ⟨w.heap.size + 1 + 1, 0, none⟩ = some (.slice none 0 0) := Mem.cell_of_row r2 0
  have a21 : w1.cell? ⟨w.heap.size + 1 + 1, 1, none⟩ = some (.slice none 0 0) := Mem.cell_of_row r2 1
  have a10 : w1.cell? ⟨w.heap.size + 1, 0, none⟩ = some (.slice none 0 0) := Mem.cell_of_row r1 0
  have a11 : w1.cell? ⟨w.heap.size + 1, 1, none⟩ = some (.slice none 0 0) := Mem.cell_of_row r1 1
  have a01 : w1.cell? ⟨w.heap.size, 1, none⟩ = some vp := Mem.cell_of_row r0 1
  have b2 : ∀ o, w1.frozen? ⟨w.heap.size + 1 + 1, o, none⟩ = false := fun o => Mem.frozen_of_row r2 o
  have b1 : ∀ o, w1.frozen? ⟨w.heap.size + 1, o, none⟩ = false := fun o => Mem.frozen_of_row r1 o
  clear r2 r1 r0
  have HR1 : Hid _ := hr1
  have HB1 : Hid (Below w.heap.size w w1) := hB0.trans (hb1.mono (by simp; omega))
  have HZ1 : Hid (w1.heap.size = w.heap.size + 1 + 1 + 1 + 1) := hz1
  have hl1 : w.heap.size + 3 < w1.heap.size := by omega
  clear hr1 hb1 hz1 hB0
  go_wp2_with fail
  have hB1 : Below w.heap.size w (w1.setCell ⟨w.heap.size + 1 + 1, 0, none⟩ (.slice (some ⟨w.heap.size + 1 + 1 + 1, 0, none⟩) ls.length ls.length)) := HB1.out.setCell (by simp; omega) _
  refine (toPend_any vp lp _ (Pends.below HP.out hB1) h2).mono ?_
  rintro e w2 ⟨rfl, hr2, hb2, hz2⟩
  obtain ⟨hcc2, hff2⟩ := bcell hb2
  simp at hcc2 hff2 hz2 hr2
  have d20 : w2.cell? ⟨w.heap.size + 1 + 1, 0, none⟩ = some (.slice (some ⟨w.heap.size + 1 + 1 + 1, 0, none⟩) ls.length ls.length) := by rw [hcc2 _ _ (by omega)]; exact World.cell?_setCell_same _ _ _ a20
  have d21 : w2.cell? ⟨w.heap.size + 1 + 1, 1, none⟩ = some (.slice none 0 0) := by rw [hcc2 _ _ (by omega), World.cell?_setCell_other _ _ _ _ (by intro e; injection e with _ e2 _; omega)]; exact a21
  have d10 : w2.cell? ⟨w.heap.size + 1, 0, none⟩ = some (.slice none 0 0) := by rw [hcc2 _ _ (by omega), World.cell?_setCell_other _ _ _ _ (by intro e; injection e with e2 _ _; omega)]; exact a10
  have d11 : w2.cell? ⟨w.heap.size + 1, 1, none⟩ = some (.slice none 0 0) := by rw [hcc2 _ _ (by omega), World.cell?_setCell_other _ _ _ _ (by intro e; injection e with e2 _ _; omega)]; exact a11
  have g2 : ∀ o, w2.frozen? ⟨w.heap.size + 1 + 1, o, none⟩ = false := fun o => by rw [hff2 _ _ (by omega)]; simpa using b2 o
  have g1 : ∀ o, w2.frozen? ⟨w.heap.size + 1, o, none⟩ = false := fun o => by rw [hff2 _ _ (by omega)]; simpa using b1 o
  clear hcc2 hff2 a20 a21 a10 a11 a01 b1 b2
  have HR2 : Hid _ := hr2
  have HB2 : Hid (Below w.heap.size w w2) := hB1.trans (hb2.mono (by simp; omega))
  have HR3 : Hid (HasRow w2 (w.heap.size + 1 + 1 + 1) (ls.map Value.string) 9) := by
    have h3 : HasRow (w1.setCell ⟨w.heap.size + 1 + 1, 0, none⟩ (.slice (some ⟨w.heap.size + 1 + 1 + 1, 0, none⟩) ls.length ls.length)) (w.heap.size + 1 + 1 + 1) (ls.map Value.string) 9 := by
      unfold HasRow
      rw [Below.heap_setCell _ _ _ _ (by simp)]
      exact HR1.out
    unfold Hid HasRow
    rw [hb2.block _ (by simp; omega)]
    exact h3
  clear hr2 hb2 hB1
  go_wp2_with fail
  refine bodyPost_ret (v := .agg #[.slice (some ⟨w.heap.size + 1 + 1 + 1, 0, none⟩) ls.length ls.length, .slice (some ⟨w1.heap.size, 0, none⟩) lp.length lp.length]) (by simp [results, Try.results7, go_sem, d10, d11]) rfl ⟨_, _, rfl, ?_, ?_, by omega, by omega, ?_, ?_⟩
  · exact row_strs (Sha.row_other (Sha.row_other (Sha.row_other HR3.out _ _ (by simp)) _ _ (by simp; omega)) _ _ (by simp; omega))
  · exact ((PendsAt.other HR2.out (by simp; omega) _).other (by simp; omega) _).other (by simp; omega) _
  · simp; exact hz2
  · exact ((HB2.out.setCell (p := ⟨w.heap.size + 1 + 1, 1, none⟩) (by simp; omega) _).setCell (p := ⟨w.heap.size + 1, 0, none⟩) (by simp) _).setCell (p := ⟨w.heap.size + 1, 1, none⟩) (by simp) _

set_option maxHeartbeats 1000000 in
theorem eqDisk_any (vs vp us up : Value) (ls : List ByteArray) (lp : List (Int × ByteArray)) (w : World) (hs : Strs w vs ls) (hp : Pends w vp lp) (ks : Strs w us ls) (kp : Pends w up lp) (h1 : ls.length ≤ 1100000) (h2 : lp.length ≤ 1100000) :
    Calls Try.prog 9 #[.agg #[vs, vp], .agg #[us, up]] w fun e w' => e = .returned (.bool true) ∧ Below w.heap.size w w' := by
  have hB0 : Below w.heap.size w ((w.alloc (Obj.cells #[vs, vp] 30)).alloc (Obj.cells #[us, up] 30)) := ((Below.refl _ _).alloc (Nat.le_refl _) _).alloc (by simp) _
  have H2 : Hid (Strs ((w.alloc (Obj.cells #[vs, vp] 30)).alloc (Obj.cells #[us, up] 30)) vs ls) := Strs.below hs hB0
  have H3 : Hid (Strs ((w.alloc (Obj.cells #[vs, vp] 30)).alloc (Obj.cells #[us, up] 30)) us ls) := Strs.below ks hB0
  have H4 : Hid (∀ n, Pends (((w.alloc (Obj.cells #[vs, vp] 30)).alloc (Obj.cells #[us, up] 30)).drewN n) vp lp) := fun n => Pends.below hp (Sha.bel_drewN hB0 n)
  have H5 : Hid (∀ n, Pends (((w.alloc (Obj.cells #[vs, vp] 30)).alloc (Obj.cells #[us, up] 30)).drewN n) up lp) := fun n => Pends.below kp (Sha.bel_drewN hB0 n)
  have HB0 : Hid (∀ n, Below w.heap.size w (((w.alloc (Obj.cells #[vs, vp] 30)).alloc (Obj.cells #[us, up] 30)).drewN n)) := fun n => Sha.bel_drewN hB0 n
  clear hs hp ks kp hB0
  go_enter Try.func9, Try.ntmps9
  go_wp2_with (first
    | (go_at_call 24; refine (eqStr_any _ _ ls _ H2.out H3.out h1).mono ?_; rintro e w1 ⟨rfl, n, rfl⟩)
    | (go_at_call 25; refine (eqPend_any _ _ lp _ (H4.out n) (H5.out n) h2).mono ?_; rintro e w2 ⟨rfl, hb2⟩))
  go_ret
  exact ⟨rfl, (HB0.out n).trans (hb2.mono (HB0.out n).size)⟩
end Go.Proofs.Ytncooabjacpjbaa.Harn
