/- Laws that the proof rests on, put together: What the program's disk at work answers: workOn, sector. What the program's disk at work answers: sector, flush. -/
import Derived.Test.YtnfidmjplhmblaaDoorImplCopyD
import Derived.Test.YtnfidmjplhmblaaDoorTextsD
import Derived.Test.YtnfidmjplhmblaaDoorTextsA
/- What the program's disk at work answers: workOn, sector. -/
namespace Go.Proofs.YtnfidmjplhmblaaDoor.Disk
open Go.RowKit Go.Proofs.YtnfidmjplhmblaaDoor.Mem Go.Proofs.YtnfidmjplhmblaaDoor.Harn Go.Proofs.YtnfidmjplhmblaaDoor.DiskP

theorem HasMap.alloc {W : World} {b n : Nat} {f : Int → Option (Int × ByteArray)} (h : HasMap W b n f) (o : Obj) : HasMap (W.alloc o) b n f := by
  obtain ⟨D, h1, h2⟩ := h
  exact ⟨D, h1.alloc o, h2⟩
theorem HasMap.below {W W' : World} {b n : Nat} {f : Int → Option (Int × ByteArray)} (h : HasMap W b n f) (hb : Below W.heap.size W W') : HasMap W' b n f := h.kept (hb.block b h.lt)
theorem HasMap.grown {W W' : World} {b n : Nat} {row : Option Nat} {f : Int → Option (Int × ByteArray)} (h : HasMap W b n f) (hg : W.grownBy W' row) (hn : some b ≠ row) : HasMap W' b n f := h.kept (hg.block b h.lt hn)
theorem HasMap.setCell {W : World} {b n : Nat} {f : Int → Option (Int × ByteArray)} (h : HasMap W b n f) {a : Addr} (ha : b ≠ a.block) (u : Value) : HasMap (W.setCell a u) b n f := h.kept (Below.heap_setCell _ _ _ _ ha)
theorem HasMap.is {W : World} {b n : Nat} {f g : Int → Option (Int × ByteArray)} (h : HasMap W b n f) (e : f = g) : HasMap W b n g := e ▸ h
theorem row_grown {W W' : World} {g : Nat} {row : Option Nat} {cs : List Value} {e : TypeId} (h : HasRow W g cs e) (hg : W.grownBy W' row) (hn : some g ≠ row) : HasRow W' g cs e := by
  have hl := row_lt h
  unfold HasRow at h ⊢
  rw [hg.block g hl hn]
  exact h

set_option maxRecDepth 100000 in
set_option maxHeartbeats 2000000 in
theorem workOn_any (vs vp : Value) (ls : List ByteArray) (lp : List (Int × ByteArray)) (w : World) (hs : Strs w vs ls) (hp : Pends w vp lp) (h1 : ls.length ≤ 1100000) (h2 : lp.length ≤ 1100000) (h3 : ∀ t ∈ ls, t.size ≤ 2000000) (h4 : ∀ y ∈ lp, 0 ≤ y.1 ∧ y.1 < 64) :
    Calls Tryd.prog 60 #[vs, vp] w fun e w' => ∃ gs gm, e = .returned (.agg #[.slice (some ⟨gs, 0, none⟩) ls.length ls.length, .map (some gm)]) ∧ StrsAt w' gs 0 ls ∧ HasMap w' gm lp.length (lastOf lp) ∧ w.heap.size ≤ gs ∧ w.heap.size ≤ gm ∧ gs ≠ gm ∧ gs < w'.heap.size ∧ gm < w'.heap.size ∧ Below w.heap.size w w' := by
  obtain ⟨a2, cap2, rfl, hc2⟩ := hp
  have HC : Hid (∀ j (h : j < lp.length), ∃ b o, a2 = some ⟨b, o, none⟩ ∧ w.cell? ⟨b, o + j * 2, none⟩ = some (.int .i64 lp[j].1) ∧ w.cell? ⟨b, o + j * 2 + 1, none⟩ = some (.string lp[j].2)) := hc2
  have H3 : Hid (∀ t ∈ ls, t.size ≤ 2000000) := h3
  have H4 : Hid (∀ y ∈ lp, 0 ≤ y.1 ∧ y.1 < 64) := h4
  have HSW : Hid (Strs (w.alloc (Obj.cells #[Value.slice none 0 0, Value.map none] 98)) vs ls) := Strs.below hs ((Below.refl _ _).alloc (Nat.le_refl _) _)
  have hmm := @run_makeMap Tryd.prog
  clear hc2 hs h3 h4
  go_enter Tryd.func60, Tryd.ntmps60
  go_wp2_with (go_at_call 47; refine (copyTexts_any vs ls _ HSW.out h1 H3.out).mono ?_; rintro e w1 ⟨rfl, ht1, hb1, hz1⟩; simp at ht1 hz1; have HT1 : Hid _ := ht1; have HB1 : Hid _ := hb1; clear ht1 hb1)
  have HBW : Hid (Below w.heap.size w w1) := ((Below.refl _ _).alloc (Nat.le_refl _) _).trans (HB1.out.mono (by simp))
  have HRR : Hid (HasRow w1 w.heap.size [Value.slice none 0 0, Value.map none] 98) := Sha.row_below (Sha.row_new w [Value.slice none 0 0, Value.map none] 98) HB1.out (by simp)
  go_loopw [14] (fun i wr => ∃ k : Nat, k ≤ lp.length ∧ i = .int .i64 k ∧ HasMap wr w1.heap.size k (lastOf (lp.take k)) ∧ Below w.heap.size w wr ∧ w1.heap.size + 2 ≤ wr.heap.size ∧ HasRow wr (w1.heap.size + 1) [.slice (some ⟨w.heap.size + 1, 0, none⟩) ls.length ls.length, .map (some w1.heap.size)] 98 ∧ HasRow wr w.heap.size [Value.slice none 0 0, Value.map none] 98 ∧ HasRow wr (w.heap.size + 1) (ls.map Value.string) 9) (fun i _ => lp.length - (intOf i).toNat)
  case atStart => exact ⟨0, by omega, rfl, (map_made w1).alloc _, (HBW.out.alloc (by omega) _).alloc (by simp; omega) _, by simp, Sha.row_new_at (w1.alloc _) [.slice (some ⟨w.heap.size + 1, 0, none⟩) ls.length ls.length, .map (some w1.heap.size)] 98 _ (by simp), Sha.row_alloc (Sha.row_alloc HRR.out _) _, Sha.row_alloc (Sha.row_alloc HT1.out _) _⟩
  case round =>
    obtain ⟨k, hk, rfl, hmap, hbel, hsz, hr1, hr0, hrt⟩ := hrel
    by_cases hlt : k < lp.length
    · obtain ⟨b, o, rfl, d1, d2⟩ := HC.out k hlt
      have c1 : wr.cell? ⟨b, o + k * 2, none⟩ = _ := (hbel.cell (World.block_lt_of_cell? w _ d1)).trans d1
      have c2 : wr.cell? ⟨b, o + k * 2 + 1, none⟩ = _ := (hbel.cell (World.block_lt_of_cell? w _ d2)).trans d2
      have HL : Hid ((fun z => if lp[k].1 = z then some (lp[k].1, lp[k].2) else lastOf (lp.take k) z) = lastOf (lp.take (k + 1))) := by
        unfold Hid
        funext z
        rw [List.take_succ_eq_append_getElem hlt, lastOf_snoc]
      have HX := H4.out _ (List.getElem_mem hlt)
      have p1 : (k : Int) < (lp.length : Int) := by omega
      have q0 : wr.cell? ⟨w1.heap.size + 1, 1, none⟩ = some (.map (some w1.heap.size)) := Mem.cell_of_row hr1 1
      have n1 : ¬ w1.heap.size + 1 = wr.heap.size := by omega
      generalize lp[k].1 = x at *
      generalize lp[k].2 = t at *
      have q0' : (wr.alloc (.cells #[.int .i64 x, .string t] 68)).cell? ⟨w1.heap.size + 1, 1, none⟩ = some (.map (some w1.heap.size)) := (World.cell?_alloc_lt _ _ _ (by simp; omega)).trans q0
      clear q0
      have HWF : Hid ((Lit.int .i64 x).wf = true) := WalkArith.wf_i64 (by omega)
      have HMAP : Hid (HasMap (wr.alloc (.cells #[.int .i64 x, .string t] 68)) w1.heap.size k (lastOf (lp.take k))) := hmap.alloc _
      have HBEL : Hid (Below w.heap.size w wr) := hbel
      have HR1 : Hid _ := hr1
      have HR0 : Hid _ := hr0
      have HRT : Hid _ := hrt
      clear d1 d2 hmap hbel hr1 hr0 hrt
      go_wp2_with (at_mapUpdate; refine wp_map_store _ rfl _ _ _ rfl w1.heap.size k _ HMAP.out (by unfold maxLen; omega) x (x, t) rfl rfl rfl HWF.out ?_; intro w2 hm2 hg2; have HM2 : Hid _ := hm2; have HG2 : Hid _ := hg2; clear hm2 hg2)
      have hgz := HG2.out.size
      simp at hgz
      go_roundw
      case rel =>
        refine ⟨k + 1, by omega, by go_num, HasMap.is HM2.out HL.out, ?_, by omega, row_grown (Sha.row_alloc HR1.out _) HG2.out (by simp), row_grown (Sha.row_alloc HR0.out _) HG2.out (by simp; omega), row_grown (Sha.row_alloc HRT.out _) HG2.out (by simp; omega)⟩
        exact (Only.of_grown (p := fun b => b = w1.heap.size) HG2.out rfl).below (HBEL.out.alloc (by omega) _) (by simp; omega) (fun b hb e => by omega)
      case measure => simp [intOf]; omega
    · have e : k = lp.length := by omega
      subst e
      rw [List.take_length] at hmap
      have q0 : wr.cell? ⟨w1.heap.size + 1, 0, none⟩ = some (.slice (some ⟨w.heap.size + 1, 0, none⟩) ls.length ls.length) := Mem.cell_of_row hr1 0
      have q1 : wr.cell? ⟨w1.heap.size + 1, 1, none⟩ = some (.map (some w1.heap.size)) := Mem.cell_of_row hr1 1
      have q2 : wr.cell? ⟨w.heap.size, 0, none⟩ = some (Value.slice none 0 0) := Mem.cell_of_row hr0 0
      have q3 : wr.cell? ⟨w.heap.size, 1, none⟩ = some (Value.map none) := Mem.cell_of_row hr0 1
      have q4 := Mem.frozen_of_row hr0
      have HMAP : Hid _ := hmap
      have HBEL : Hid (Below w.heap.size w wr) := hbel
      have HRT : Hid _ := hrt
      clear hmap hbel hr1 hr0 hrt
      go_wp2_with fail
      refine bodyPost_ret (v := .agg #[.slice (some ⟨w.heap.size + 1, 0, none⟩) ls.length ls.length, .map (some w1.heap.size)]) (by simp [results, Tryd.results60, go_sem, q2, q3]) rfl ⟨w.heap.size + 1, w1.heap.size, rfl, ?_, ?_, by omega, by omega, by omega, by simp; omega, by simp; omega, ?_⟩
      · exact StrsAt.other (StrsAt.other (row_strs HRT.out) (by simp) _) (by simp) _
      · exact HasMap.setCell (HasMap.setCell HMAP.out (by simp; omega) _) (by simp; omega) _
      · exact (HBEL.out.setCell (p := ⟨w.heap.size, 0, none⟩) (by simp) _).setCell (p := ⟨w.heap.size, 1, none⟩) (by simp) _
end Go.Proofs.YtnfidmjplhmblaaDoor.Disk

/- What the program's disk at work answers: sector, flush. -/
namespace Go.Proofs.YtnfidmjplhmblaaDoor.Disk
open Go.RowKit Go.Proofs.YtnfidmjplhmblaaDoor.Mem Go.Proofs.YtnfidmjplhmblaaDoor.Harn Go.Proofs.YtnfidmjplhmblaaDoor.DiskP

/-- What stands at a place, where f tells what is pending. -/
def secD (ls : List ByteArray) (f : Int → Option (Int × ByteArray)) (k : Nat) : ByteArray := match f (k : Int) with
  | some y => y.2
  | none => ls.getD k ByteArray.empty
theorem secD_last (ls : List ByteArray) (lp : List (Int × ByteArray)) (k : Nat) : secD ls (lastOf lp) k = readD ls lp k := rfl

set_option maxRecDepth 100000 in
set_option maxHeartbeats 1000000 in
theorem sector_any (vs : Value) (gm n k : Nat) (ls : List ByteArray) (f : Int → Option (Int × ByteArray)) (w : World) (hs : Strs w vs ls) (hm : HasMap w gm n f) (hk : k < ls.length) (h1 : ls.length ≤ 64) (h2 : ∀ z y, f z = some y → y.2.size ≤ 2000000) :
    Calls Tryd.prog 61 #[.agg #[vs, .map (some gm)], .int .i64 (k : Int)] w fun e w' => e = .returned (.string (secD ls f k)) ∧ Below w.heap.size w w' := by
  obtain ⟨a, cap, rfl, hc⟩ := hs
  have hl := map_look (HasMap.alloc hm (.cells #[.slice a ls.length cap, .map (some gm)] 98)) (x := (k : Int)) (WalkArith.wf_i64 (by omega))
  obtain ⟨b, o, rfl, c0⟩ := hc k hk
  have hbl := World.block_lt_of_cell? w _ c0
  simp only at hbl
  have p1 : (k : Int) < (ls.length : Int) := by omega
  clear hm hc
  cases e : f (k : Int) with
  | some y =>
    have HE : Hid (Ending.returned (.string (secD ls f k)) = .returned (.string y.2)) := by unfold Hid secD; rw [e]
    have HJ : Hid (∀ W, Calls Tryd.prog 46 #[.string ByteArray.empty, .string y.2] W fun e w' => e = .returned (.string y.2) ∧ Below W.heap.size W w') := fun W => join_empty _ W (h2 _ _ e)
    rw [e] at hl
    simp only [pv, Option.getD_some, Option.isSome_some] at hl
    generalize y.1 = x at *
    generalize y.2 = t at *
    clear h2 c0 e
    go_enter Tryd.func61, Tryd.ntmps61
    go_wp2_with (go_at_call 46; refine (HJ.out _).mono ?_; rintro e w1 ⟨rfl, hb1⟩)
    go_ret
    refine ⟨HE.out.symm, ?_⟩
    have hB : Below w.heap.size w ((w.alloc (.cells #[.slice (some ⟨b, o, none⟩) ls.length cap, .map (some gm)] 98)).alloc (.cells #[.int .i64 x, .string t] 68)) := ((Below.refl _ _).alloc (Nat.le_refl _) _).alloc (by simp) _
    exact hB.trans (hb1.mono hB.size)
  | none =>
    have HE : Hid (Ending.returned (.string (secD ls f k)) = .returned (.string ls[k])) := by unfold Hid secD; rw [e]; simp [hk]
    rw [e] at hl
    simp only [pv, zp, Option.getD_none, Option.isSome_none] at hl
    have c1 : ((w.alloc (.cells #[.slice (some ⟨b, o, none⟩) ls.length cap, .map (some gm)] 98)).alloc (.cells #[.int .i64 0, .string ByteArray.empty] 68)).cell? ⟨b, o + k, none⟩ = some (.string ls[k]) := ((World.cell?_alloc_lt _ _ _ (by simp; omega)).trans (World.cell?_alloc_lt _ _ _ (by simp; omega))).trans c0
    generalize ls[k] = t at *
    clear h2 c0 e
    go_enter Tryd.func61, Tryd.ntmps61
    go_wp2_with fail
    go_ret
    refine ⟨HE.out.symm, ?_⟩
    exact ((Below.refl _ _).alloc (Nat.le_refl _) _).alloc (by simp) _

/-- What is pending, of which the places below k were taken. -/
def from_ (lp : List (Int × ByteArray)) (k : Nat) : Int → Option (Int × ByteArray) := fun z => if z < (k : Int) then none else lastOf lp z
theorem from_start (lp : List (Int × ByteArray)) (h : ∀ y ∈ lp, 0 ≤ y.1) : lastOf lp = from_ lp 0 := by
  funext z
  unfold from_
  by_cases hz : z < ((0 : Nat) : Int)
  · rw [if_pos hz]
    cases e : lastOf lp z with
    | none => rfl
    | some y =>
      obtain ⟨h1, h2⟩ := lastOf_mem e
      have := h y h1
      omega
  · rw [if_neg hz]
theorem from_step (lp : List (Int × ByteArray)) (k : Nat) : (fun z => if (k : Int) = z then none else from_ lp k z) = from_ lp (k + 1) := by
  funext z
  unfold from_
  by_cases h1 : (k : Int) = z
  · rw [if_pos h1, if_pos (by omega)]
  · by_cases h2 : z < (k : Int)
    · rw [if_neg h1, if_pos h2, if_pos (by omega)]
    · rw [if_neg h1, if_neg h2, if_neg (by omega)]
theorem sec_from (ls : List ByteArray) (lp : List (Int × ByteArray)) (k : Nat) (h : k < ls.length) : secD (flTo ls lp k) (from_ lp k) k = readD ls lp k := by
  unfold secD from_ readD
  rw [if_neg (by omega)]
  cases lastOf lp (k : Int) with
  | some y => rfl
  | none =>
    show (flTo ls lp k).getD k ByteArray.empty = _
    rw [List.getD_eq_getElem?_getD, flTo_at ls lp k h]
    simp [h]

end Go.Proofs.YtnfidmjplhmblaaDoor.Disk
