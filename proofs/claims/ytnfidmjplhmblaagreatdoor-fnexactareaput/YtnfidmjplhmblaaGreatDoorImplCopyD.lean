/- What the program's copyDisk answers. -/
import Derived.Test.YtnfidmjplhmblaaGreatDoorTextsE
import Derived.Test.YtnfidmjplhmblaaGreatDoorSpecCopy
namespace Go.Proofs.YtnfidmjplhmblaaGreatDoor.Disk
open Go.RowKit Go.Proofs.YtnfidmjplhmblaaGreatDoor.Mem Go.Proofs.YtnfidmjplhmblaaGreatDoor.Harn

theorem row_lt {W : World} {g : Nat} {cs : List Value} {e : TypeId} (hr : HasRow W g cs e) : g < W.heap.size := by
  rcases Nat.lt_or_ge g W.heap.size with hlt | hge
  · exact hlt
  · unfold HasRow at hr; rw [Array.getElem?_eq_none hge] at hr; cases hr

set_option maxRecDepth 100000 in
set_option maxHeartbeats 2000000 in
theorem copyDisk_at (vs vp : Value) (ls : List ByteArray) (lp : List (Int × ByteArray)) (w : World) (hs : Strs w vs ls) (hp : Pends w vp lp) (h1 : ls.length ≤ 1100000) (h2 : lp.length ≤ 1100000) (h3 : ∀ t ∈ ls, t.size ≤ 2000000) (h4 : ∀ y ∈ lp, y.2.size ≤ 2000000) :
    Calls Tryz.prog 54 #[.agg #[vs, vp]] w fun e w' => ∃ gs gp, e = .returned (.agg #[.slice (some ⟨gs, 0, none⟩) ls.length ls.length, .slice (some ⟨gp, 0, none⟩) lp.length lp.length]) ∧ StrsAt w' gs 0 ls ∧ PendsAt w' gp 0 lp ∧ w.heap.size ≤ gs ∧ w.heap.size ≤ gp ∧ gs ≠ gp ∧ gs < w'.heap.size ∧ gp < w'.heap.size ∧ Below w.heap.size w w' := by
  obtain ⟨a2, cap2, rfl, hc2⟩ := hp
  have HC : Hid (∀ j (h : j < lp.length), ∃ b o, a2 = some ⟨b, o, none⟩ ∧ w.cell? ⟨b, o + j * 2, none⟩ = some (.int .i64 lp[j].1) ∧ w.cell? ⟨b, o + j * 2 + 1, none⟩ = some (.string lp[j].2)) := hc2
  have HS : Hid (Strs w vs ls) := hs
  have H3 : Hid (∀ t ∈ ls, t.size ≤ 2000000) := h3
  have H4 : Hid (∀ y ∈ lp, y.2.size ≤ 2000000) := h4
  obtain ⟨W1, hmk, hr1, hb1, hz1⟩ := make_pends lp.length (by omega) ((w.alloc (Obj.cells #[vs, .slice a2 lp.length cap2] 29)).alloc (Obj.cells #[Value.slice none 0 0, Value.slice none 0 0] 29))
  simp at hmk hr1 hz1
  have HR : Hid (PendsAt W1 (w.heap.size + 1 + 1) 0 (List.replicate lp.length (0, ByteArray.empty))) := hr1
  have HB : Hid (Below w.heap.size w W1) := (((Below.refl _ _).alloc (Nat.le_refl _) _).alloc (by simp) _).trans (hb1.mono (by simp; omega))
  have R0 : Hid (HasRow W1 w.heap.size [vs, .slice a2 lp.length cap2] 29) := Sha.row_below (Sha.row_alloc (Sha.row_new w [vs, .slice a2 lp.length cap2] 29) _) hb1 (by simp; omega)
  have R1 : Hid (HasRow W1 (w.heap.size + 1) [Value.slice none 0 0, Value.slice none 0 0] 29) := Sha.row_below (Sha.row_new_at (w.alloc _) [Value.slice none 0 0, Value.slice none 0 0] 29 _ (by simp)) hb1 (by simp)
  have HZ : Hid (w.heap.size + 3 ≤ W1.heap.size) := by unfold Hid; omega
  have e0 : W1.cell? ⟨w.heap.size, 1, none⟩ = some (.slice a2 lp.length cap2) := Mem.cell_of_row R0.out 1
  clear hc2 hs h3 h4 hr1 hb1 hz1
  go_enter Tryz.func54, Tryz.ntmps54
  go_wp2_with fail
  go_loopw [13] (fun i wr => ∃ k : Nat, k ≤ lp.length ∧ i = .int .i64 k ∧ PendsAt wr (w.heap.size + 1 + 1) 0 (pcopy lp k) ∧ Below w.heap.size w wr ∧ w.heap.size + 3 ≤ wr.heap.size ∧ HasRow wr w.heap.size [vs, .slice a2 lp.length cap2] 29 ∧ HasRow wr (w.heap.size + 1) [Value.slice none 0 0, Value.slice none 0 0] 29) (fun i _ => lp.length - (intOf i).toNat)
  case atStart => exact ⟨0, by omega, rfl, by rw [pcopy_start]; exact HR.out, HB.out, HZ.out, R0.out, R1.out⟩
  case round =>
    clear HR HB HZ R0 R1 e0 hmk
    obtain ⟨k, hk, rfl, hrow, hbel, hsz, hr0, hr1⟩ := hrel
    by_cases hlt : k < lp.length
    · obtain ⟨b, o, rfl, d1, d2⟩ := HC.out k hlt
      have c1 : wr.cell? ⟨b, o + k * 2, none⟩ = _ := (hbel.cell (World.block_lt_of_cell? w _ d1)).trans d1
      have c2 : wr.cell? ⟨b, o + k * 2 + 1, none⟩ = _ := (hbel.cell (World.block_lt_of_cell? w _ d2)).trans d2
      have hlp := length_pcopy lp k hk
      obtain ⟨e1, e2, f1, f2⟩ := hrow k (by omega)
      simp only [Nat.zero_add] at e1 e2 f1 f2
      have HROW : Hid (PendsAt wr (w.heap.size + 1 + 1) 0 (pcopy lp k)) := hrow
      have HE : Hid ((pcopy lp k).set k (lp[k].1, lp[k].2) = pcopy lp (k + 1)) := pcopy_set lp k hlt
      have HJ : Hid (∀ W, Calls Tryz.prog 71 #[.string ByteArray.empty, .string lp[k].2] W fun e w' => e = .returned (.string lp[k].2) ∧ Below W.heap.size W w') := fun W => join_empty _ W (H4.out _ (List.getElem_mem hlt))
      have p0 : (0 : Int) ≤ (k : Int) := by omega
      have p1 : (k : Int) < (lp.length : Int) := by omega
      generalize lp[k].1 = x at *
      generalize lp[k].2 = t at *
      generalize (pcopy lp k)[k].1 = x0 at *
      generalize (pcopy lp k)[k].2 = t0 at *
      have HBEL : Hid (Below w.heap.size w wr) := hbel
      have HR0 : Hid _ := hr0
      have HR1 : Hid _ := hr1
      clear d1 d2 hrow hbel hr0 hr1
      have n1 : ¬ w.heap.size + 1 + 1 = wr.heap.size := by omega
      have n2 : ¬ wr.heap.size = w.heap.size + 1 + 1 := by omega
      go_wp2_with fail
      go_region_held3 (fun w' => w'.cell? ⟨wr.heap.size, 0, none⟩ = some (.int .i64 x) ∧ w'.cell? ⟨wr.heap.size, 1, none⟩ = some (.string t))
        (first
          | go_keep
          | (go_split_ands; refine ⟨?_, ?_⟩ <;> (rw [hb1.cell (by simp)]; simp [*])))
        (first | (go_at_call 71; refine (HJ.out _).mono ?_; rintro e w1 ⟨rfl, hb1⟩; obtain ⟨hcc, hff⟩ := bcell hb1; simp at hcc hff; have hq1 := hb1.size; simp at hq1; have hB1 : Below wr.heap.size wr w1 := (by refine bT ?_ hb1; repeat' (first | exact Below.refl _ _ | apply bD | apply bA)); have g1 : w1.cell? ⟨w.heap.size + 1 + 1, k * 2, none⟩ = some (.int .i64 x0) := (hB1.cell (by simp; omega)).trans e1; have g2 : w1.cell? ⟨w.heap.size + 1 + 1, k * 2 + 1, none⟩ = some (.string t0) := (hB1.cell (by simp; omega)).trans e2; have g3 : w1.frozen? ⟨w.heap.size + 1 + 1, k * 2, none⟩ = false := (hB1.frozen (by simp; omega)).trans f1; have g4 : w1.frozen? ⟨w.heap.size + 1 + 1, k * 2 + 1, none⟩ = false := (hB1.frozen (by simp; omega)).trans f2))
      have HSN : Hid (PendsAt ((w1.setCell ⟨w.heap.size + 1 + 1, k * 2, none⟩ (.int .i64 x)).setCell ⟨w.heap.size + 1 + 1, k * 2 + 1, none⟩ (.string t)) (w.heap.size + 1 + 1) 0 (pcopy lp (k + 1))) := by
        unfold Hid
        rw [← HE.out]
        have := (PendsAt.below HROW.out hB1).set (i := k) (by omega) x t
        simpa using this
      have HB1 : Hid (Below w.heap.size w w1) := HBEL.out.trans (hB1.mono HBEL.out.size)
      have HA : Hid (HasRow w1 w.heap.size [vs, .slice (some ⟨b, o, none⟩) lp.length cap2] 29) := Sha.row_below HR0.out hB1 (by omega)
      have HAB : Hid (HasRow w1 (w.heap.size + 1) [Value.slice none 0 0, Value.slice none 0 0] 29) := Sha.row_below HR1.out hB1 (by omega)
      clear hcc hff g1 g2 g3 g4 hB1
      go_wp2
      go_roundw
      case rel => exact ⟨k + 1, by omega, by go_num, HSN.out, (HB1.out.setCell (p := ⟨w.heap.size + 1 + 1, k * 2, none⟩) (by simp; omega) _).setCell (p := ⟨w.heap.size + 1 + 1, k * 2 + 1, none⟩) (by simp; omega) _, by simp; omega, Sha.row_other (Sha.row_other HA.out _ _ (by simp; omega)) _ _ (by simp; omega), Sha.row_other (Sha.row_other HAB.out _ _ (by simp)) _ _ (by simp)⟩
      case measure => simp [intOf]; omega
    · have e : k = lp.length := by omega
      subst e
      rw [pcopy_end] at hrow
      have q0 : wr.cell? ⟨w.heap.size, 0, none⟩ = some vs := Mem.cell_of_row hr0 0
      have HROW : Hid (PendsAt wr (w.heap.size + 1 + 1) 0 lp) := hrow
      have HBEL : Hid (Below w.heap.size w wr) := hbel
      have HR1 : Hid _ := hr1
      have HSW : Hid (Strs wr vs ls) := Strs.below HS.out hbel
      clear hrow hbel hr0 hr1
      go_wp2_with (go_at_call 72; refine (copyTexts_any vs ls _ HSW.out h1 H3.out).mono ?_; rintro e w1 ⟨rfl, ht1, hb1, hz1⟩; have hr1 : HasRow w1 (w.heap.size + 1) [Value.slice none 0 0, Value.slice none 0 0] 29 := Sha.row_below HR1.out hb1 (by omega); have q1 : w1.cell? ⟨w.heap.size + 1, 0, none⟩ = some (.slice none 0 0) := Mem.cell_of_row hr1 0; have q2 : w1.cell? ⟨w.heap.size + 1, 1, none⟩ = some (.slice none 0 0) := Mem.cell_of_row hr1 1; have q3 := Mem.frozen_of_row hr1; have HT1 : Hid _ := ht1; have HB1 : Hid _ := hb1; clear ht1 hb1 hr1)
      refine bodyPost_ret (v := .agg #[.slice (some ⟨wr.heap.size, 0, none⟩) ls.length ls.length, .slice (some ⟨w.heap.size + 1 + 1, 0, none⟩) lp.length lp.length]) (by simp [results, Tryz.results54, go_sem, q1, q2]) rfl ⟨_, _, rfl, ?_, ?_, by omega, by omega, by omega, by simp; omega, by simp; omega, ?_⟩
      · exact StrsAt.other (StrsAt.other (row_strs HT1.out) (by simp; omega) _) (by simp; omega) _
      · exact PendsAt.other (PendsAt.other (PendsAt.below HROW.out HB1.out) (by simp) _) (by simp) _
      · exact ((HBEL.out.trans (HB1.out.mono HBEL.out.size)).setCell (p := ⟨w.heap.size + 1, 0, none⟩) (by simp) _).setCell (p := ⟨w.heap.size + 1, 1, none⟩) (by simp) _

theorem copyDisk_any (vs vp : Value) (ls : List ByteArray) (lp : List (Int × ByteArray)) (w : World) (hs : Strs w vs ls) (hp : Pends w vp lp) (h1 : ls.length ≤ 1100000) (h2 : lp.length ≤ 1100000) (h3 : ∀ t ∈ ls, t.size ≤ 2000000) (h4 : ∀ y ∈ lp, y.2.size ≤ 2000000) :
    Calls Tryz.prog 54 #[.agg #[vs, vp]] w fun e w' => ∃ us up, e = .returned (.agg #[us, up]) ∧ Own w' w.heap.size w'.heap.size us up ls lp ∧ Below w.heap.size w w' := by
  refine (copyDisk_at vs vp ls lp w hs hp h1 h2 h3 h4).mono ?_
  rintro e w' ⟨gs, gp, rfl, a1, a2, a3, a4, a5, a6, a7, a8⟩
  exact ⟨_, _, rfl, own_mk a1 a2 a3 a6 a4 a7 a5, a8⟩
end Go.Proofs.YtnfidmjplhmblaaGreatDoor.Disk
