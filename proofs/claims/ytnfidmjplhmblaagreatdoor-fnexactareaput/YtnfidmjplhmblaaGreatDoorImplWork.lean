/- What the program's disk at work answers: workOn, sector. -/
import Derived.Test.YtnfidmjplhmblaaGreatDoorImplCopyD
import Derived.Test.YtnfidmjplhmblaaGreatDoorTextsD
import Derived.Test.YtnfidmjplhmblaaGreatDoorTextsA
namespace Go.Proofs.YtnfidmjplhmblaaGreatDoor.Disk
open Go.RowKit Go.Proofs.YtnfidmjplhmblaaGreatDoor.Mem Go.Proofs.YtnfidmjplhmblaaGreatDoor.Harn Go.Proofs.YtnfidmjplhmblaaGreatDoor.DiskP

theorem HasMap.alloc {W : World} {b n : Nat} {f : Int → Option (Int × ByteArray)} (h : HasMap W b n f) (o : Obj) : HasMap (W.alloc o) b n f := by
  obtain ⟨D, h1, h2⟩ := h
  exact ⟨D, h1.alloc o, h2⟩
theorem HasMap.below {W W' : World} {b n : Nat} {f : Int → Option (Int × ByteArray)} (h : HasMap W b n f) (hb : Below W.heap.size W W') : HasMap W' b n f := h.kept (hb.block b h.lt)
theorem HasMap.grown {W W' : World} {b n : Nat} {row : Option Nat} {f : Int → Option (Int × ByteArray)} (h : HasMap W b n f) (hg : W.grownBy W' row) (hn : some b ≠ row) : HasMap W' b n f := h.kept (hg.block b h.lt hn)
theorem HasMap.setCell {W : World} {b n : Nat} {f : Int → Option (Int × ByteArray)} (h : HasMap W b n f) {a : Addr} (ha : b ≠ a.block) (u : Value) : HasMap (W.setCell a u) b n f := h.kept (Below.heap_setCell _ _ _ _ ha)
theorem HasMap.is {W : World} {b n : Nat} {f g : Int → Option (Int × ByteArray)} (h : HasMap W b n f) (e : f = g) : HasMap W b n g := e ▸ h
theorem row_grown {W W' : World} {g : Nat} {row : Option Nat} {cs : List Value} {e : TypeId} (h : HasRow W g cs e) (hg : W.grownBy W' row) (hn : some g ≠ row) : HasRow W' g cs e := by
  have hl := row_lt h
  unfold HasRow at h ⊢
  rw [hg.block g hl hn]
  exact h

set_option maxRecDepth 100000 in
set_option maxHeartbeats 2000000 in
theorem workOn_any (vs vp : Value) (ls : List ByteArray) (lp : List (Int × ByteArray)) (w : World) (hs : Strs w vs ls) (hp : Pends w vp lp) (h1 : ls.length ≤ 1100000) (h2 : lp.length ≤ 1100000) (h3 : ∀ t ∈ ls, t.size ≤ 2000000) (h4 : ∀ y ∈ lp, 0 ≤ y.1 ∧ y.1 < 64) :
    Calls Tryz.prog 79 #[vs, vp] w fun e w' => ∃ gs gm, e = .returned (.agg #[.slice (some ⟨gs, 0, none⟩) ls.length ls.length, .map (some gm)]) ∧ StrsAt w' gs 0 ls ∧ HasMap w' gm lp.length (lastOf lp) ∧ w.heap.size ≤ gs ∧ w.heap.size ≤ gm ∧ gs ≠ gm ∧ gs < w'.heap.size ∧ gm < w'.heap.size ∧ Below w.heap.size w w' := by
  obtain ⟨a2, cap2, rfl, hc2⟩ := hp
  have HC : Hid (∀ j (h : j < lp.length), ∃ b o, a2 = some ⟨b, o, none⟩ ∧ w.cell? ⟨b, o + j * 2, none⟩ = some (.int .i64 lp[j].1) ∧ w.cell? ⟨b, o + j * 2 + 1, none⟩ = some (.string lp[j].2)) := hc2
  have H3 : Hid (∀ t ∈ ls, t.size ≤ 2000000) := h3
  have H4 : Hid (∀ y ∈ lp, 0 ≤ y.1 ∧ y.1 < 64) := h4
  have HSW : Hid (Strs (w.alloc (Obj.cells #[Value.slice none 0 0, Value.map none] 117)) vs ls) := Strs.below hs ((Below.refl _ _).alloc (Nat.le_refl _) _)
  have hmm := @run_makeMap Tryz.prog
  clear hc2 hs h3 h4
  go_enter Tryz.func79, Tryz.ntmps79
  go_wp2_with (go_at_call 72; refine (copyTexts_any vs ls _ HSW.out h1 H3.out).mono ?_; rintro e w1 ⟨rfl, ht1, hb1, hz1⟩; simp at ht1 hz1; have HT1 : Hid _ := ht1; have HB1 : Hid _ := hb1; clear ht1 hb1)
  have HBW : Hid (Below w.heap.size w w1) := ((Below.refl _ _).alloc (Nat.le_refl _) _).trans (HB1.out.mono (by simp))
  have HRR : Hid (HasRow w1 w.heap.size [Value.slice none 0 0, Value.map none] 117) := Sha.row_below (Sha.row_new w [Value.slice none 0 0, Value.map none] 117) HB1.out (by simp)
  go_loopw [14] (fun i wr => ∃ k : Nat, k ≤ lp.length ∧ i = .int .i64 k ∧ HasMap wr w1.heap.size k (lastOf (lp.take k)) ∧ Below w.heap.size w wr ∧ w1.heap.size + 2 ≤ wr.heap.size ∧ HasRow wr (w1.heap.size + 1) [.slice (some ⟨w.heap.size + 1, 0, none⟩) ls.length ls.length, .map (some w1.heap.size)] 117 ∧ HasRow wr w.heap.size [Value.slice none 0 0, Value.map none] 117 ∧ HasRow wr (w.heap.size + 1) (ls.map Value.string) 9) (fun i _ => lp.length - (intOf i).toNat)
  case atStart => exact ⟨0, by omega, rfl, (map_made w1).alloc _, (HBW.out.alloc (by omega) _).alloc (by simp; omega) _, by simp, Sha.row_new_at (w1.alloc _) [.slice (some ⟨w.heap.size + 1, 0, none⟩) ls.length ls.length, .map (some w1.heap.size)] 117 _ (by simp), Sha.row_alloc (Sha.row_alloc HRR.out _) _, Sha.row_alloc (Sha.row_alloc HT1.out _) _⟩
  case round =>
    obtain ⟨k, hk, rfl, hmap, hbel, hsz, hr1, hr0, hrt⟩ := hrel
    by_cases hlt : k < lp.length
    · obtain ⟨b, o, rfl, d1, d2⟩ := HC.out k hlt
      have c1 : wr.cell? ⟨b, o + k * 2, none⟩ = _ := (hbel.cell (World.block_lt_of_cell? w _ d1)).trans d1
      have c2 : wr.cell? ⟨b, o + k * 2 + 1, none⟩ = _ := (hbel.cell (World.block_lt_of_cell? w _ d2)).trans d2
      have HL : Hid ((fun z => if lp[k].1 = z then some (lp[k].1, lp[k].2) else lastOf (lp.take k) z) = lastOf (lp.take (k + 1))) := by
        unfold Hid
        funext z
        rw [List.take_succ_eq_append_getElem hlt, lastOf_snoc]
      have HX := H4.out _ (List.getElem_mem hlt)
      have p1 : (k : Int) < (lp.length : Int) := by omega
      have q0 : wr.cell? ⟨w1.heap.size + 1, 1, none⟩ = some (.map (some w1.heap.size)) := Mem.cell_of_row hr1 1
      have n1 : ¬ w1.heap.size + 1 = wr.heap.size := by omega
      generalize lp[k].1 = x at *
      generalize lp[k].2 = t at *
      have q0' : (wr.alloc (.cells #[.int .i64 x, .string t] 76)).cell? ⟨w1.heap.size + 1, 1, none⟩ = some (.map (some w1.heap.size)) := (World.cell?_alloc_lt _ _ _ (by simp; omega)).trans q0
      clear q0
      have HWF : Hid ((Lit.int .i64 x).wf = true) := WalkArith.wf_i64 (by omega)
      have HMAP : Hid (HasMap (wr.alloc (.cells #[.int .i64 x, .string t] 76)) w1.heap.size k (lastOf (lp.take k))) := hmap.alloc _
      have HBEL : Hid (Below w.heap.size w wr) := hbel
      have HR1 : Hid _ := hr1
      have HR0 : Hid _ := hr0
      have HRT : Hid _ := hrt
      clear d1 d2 hmap hbel hr1 hr0 hrt
      go_wp2_with (at_mapUpdate; refine wp_map_store _ rfl _ _ _ rfl w1.heap.size k _ HMAP.out (by unfold maxLen; omega) x (x, t) rfl rfl rfl HWF.out ?_; intro w2 hm2 hg2; have HM2 : Hid _ := hm2; have HG2 : Hid _ := hg2; clear hm2 hg2)
      have hgz := HG2.out.size
      simp at hgz
      go_roundw
      case rel =>
        refine ⟨k + 1, by omega, by go_num, HasMap.is HM2.out HL.out, ?_, by omega, row_grown (Sha.row_alloc HR1.out _) HG2.out (by simp), row_grown (Sha.row_alloc HR0.out _) HG2.out (by simp; omega), row_grown (Sha.row_alloc HRT.out _) HG2.out (by simp; omega)⟩
        exact (Only.of_grown (p := fun b => b = w1.heap.size) HG2.out rfl).below (HBEL.out.alloc (by omega) _) (by simp; omega) (fun b hb e => by omega)
      case measure => simp [intOf]; omega
    · have e : k = lp.length := by omega
      subst e
      rw [List.take_length] at hmap
      have q0 : wr.cell? ⟨w1.heap.size + 1, 0, none⟩ = some (.slice (some ⟨w.heap.size + 1, 0, none⟩) ls.length ls.length) := Mem.cell_of_row hr1 0
      have q1 : wr.cell? ⟨w1.heap.size + 1, 1, none⟩ = some (.map (some w1.heap.size)) := Mem.cell_of_row hr1 1
      have q2 : wr.cell? ⟨w.heap.size, 0, none⟩ = some (Value.slice none 0 0) := Mem.cell_of_row hr0 0
      have q3 : wr.cell? ⟨w.heap.size, 1, none⟩ = some (Value.map none) := Mem.cell_of_row hr0 1
      have q4 := Mem.frozen_of_row hr0
      have HMAP : Hid _ := hmap
      have HBEL : Hid (Below w.heap.size w wr) := hbel
      have HRT : Hid _ := hrt
      clear hmap hbel hr1 hr0 hrt
      go_wp2_with fail
      refine bodyPost_ret (v := .agg #[.slice (some ⟨w.heap.size + 1, 0, none⟩) ls.length ls.length, .map (some w1.heap.size)]) (by simp [results, Tryz.results79, go_sem, q2, q3]) rfl ⟨w.heap.size + 1, w1.heap.size, rfl, ?_, ?_, by omega, by omega, by omega, by simp; omega, by simp; omega, ?_⟩
      · exact StrsAt.other (StrsAt.other (row_strs HRT.out) (by simp) _) (by simp) _
      · exact HasMap.setCell (HasMap.setCell HMAP.out (by simp; omega) _) (by simp; omega) _
      · exact (HBEL.out.setCell (p := ⟨w.heap.size, 0, none⟩) (by simp) _).setCell (p := ⟨w.heap.size, 1, none⟩) (by simp) _
end Go.Proofs.YtnfidmjplhmblaaGreatDoor.Disk
