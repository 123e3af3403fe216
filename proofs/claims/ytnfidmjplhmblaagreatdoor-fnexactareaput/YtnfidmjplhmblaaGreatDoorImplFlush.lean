/- What the program's disk at work answers: sector, flush. -/
import Derived.Test.YtnfidmjplhmblaaGreatDoorImplWork
namespace Go.Proofs.YtnfidmjplhmblaaGreatDoor.Disk
open Go.RowKit Go.Proofs.YtnfidmjplhmblaaGreatDoor.Mem Go.Proofs.YtnfidmjplhmblaaGreatDoor.Harn Go.Proofs.YtnfidmjplhmblaaGreatDoor.DiskP

/-- What stands at a place, where f tells what is pending. -/
def secD (ls : List ByteArray) (f : Int → Option (Int × ByteArray)) (k : Nat) : ByteArray := match f (k : Int) with
  | some y => y.2
  | none => ls.getD k ByteArray.empty
theorem secD_last (ls : List ByteArray) (lp : List (Int × ByteArray)) (k : Nat) : secD ls (lastOf lp) k = readD ls lp k := rfl

set_option maxRecDepth 100000 in
set_option maxHeartbeats 1000000 in
theorem sector_any (vs : Value) (gm n k : Nat) (ls : List ByteArray) (f : Int → Option (Int × ByteArray)) (w : World) (hs : Strs w vs ls) (hm : HasMap w gm n f) (hk : k < ls.length) (h1 : ls.length ≤ 64) (h2 : ∀ z y, f z = some y → y.2.size ≤ 2000000) :
    Calls Tryz.prog 80 #[.agg #[vs, .map (some gm)], .int .i64 (k : Int)] w fun e w' => e = .returned (.string (secD ls f k)) ∧ Below w.heap.size w w' := by
  obtain ⟨a, cap, rfl, hc⟩ := hs
  have hl := map_look (HasMap.alloc hm (.cells #[.slice a ls.length cap, .map (some gm)] 117)) (x := (k : Int)) (WalkArith.wf_i64 (by omega))
  obtain ⟨b, o, rfl, c0⟩ := hc k hk
  have hbl := World.block_lt_of_cell? w _ c0
  simp only at hbl
  have p1 : (k : Int) < (ls.length : Int) := by omega
  clear hm hc
  cases e : f (k : Int) with
  | some y =>
    have HE : Hid (Ending.returned (.string (secD ls f k)) = .returned (.string y.2)) := by unfold Hid secD; rw [e]
    have HJ : Hid (∀ W, Calls Tryz.prog 71 #[.string ByteArray.empty, .string y.2] W fun e w' => e = .returned (.string y.2) ∧ Below W.heap.size W w') := fun W => join_empty _ W (h2 _ _ e)
    rw [e] at hl
    simp only [pv, Option.getD_some, Option.isSome_some] at hl
    generalize y.1 = x at *
    generalize y.2 = t at *
    clear h2 c0 e
    go_enter Tryz.func80, Tryz.ntmps80
    go_wp2_with (go_at_call 71; refine (HJ.out _).mono ?_; rintro e w1 ⟨rfl, hb1⟩)
    go_ret
    refine ⟨HE.out.symm, ?_⟩
    have hB : Below w.heap.size w ((w.alloc (.cells #[.slice (some ⟨b, o, none⟩) ls.length cap, .map (some gm)] 117)).alloc (.cells #[.int .i64 x, .string t] 76)) := ((Below.refl _ _).alloc (Nat.le_refl _) _).alloc (by simp) _
    exact hB.trans (hb1.mono hB.size)
  | none =>
    have HE : Hid (Ending.returned (.string (secD ls f k)) = .returned (.string ls[k])) := by unfold Hid secD; rw [e]; simp [hk]
    rw [e] at hl
    simp only [pv, zp, Option.getD_none, Option.isSome_none] at hl
    have c1 : ((w.alloc (.cells #[.slice (some ⟨b, o, none⟩) ls.length cap, .map (some gm)] 117)).alloc (.cells #[.int .i64 0, .string ByteArray.empty] 76)).cell? ⟨b, o + k, none⟩ = some (.string ls[k]) := ((World.cell?_alloc_lt _ _ _ (by simp; omega)).trans (World.cell?_alloc_lt _ _ _ (by simp; omega))).trans c0
    generalize ls[k] = t at *
    clear h2 c0 e
    go_enter Tryz.func80, Tryz.ntmps80
    go_wp2_with fail
    go_ret
    refine ⟨HE.out.symm, ?_⟩
    exact ((Below.refl _ _).alloc (Nat.le_refl _) _).alloc (by simp) _

/-- What is pending, of which the places below k were taken. -/
def from_ (lp : List (Int × ByteArray)) (k : Nat) : Int → Option (Int × ByteArray) := fun z => if z < (k : Int) then none else lastOf lp z
theorem from_start (lp : List (Int × ByteArray)) (h : ∀ y ∈ lp, 0 ≤ y.1) : lastOf lp = from_ lp 0 := by
  funext z
  unfold from_
  by_cases hz : z < ((0 : Nat) : Int)
  · rw [if_pos hz]
    cases e : lastOf lp z with
    | none => rfl
    | some y =>
      obtain ⟨h1, h2⟩ := lastOf_mem e
      have := h y h1
      omega
  · rw [if_neg hz]
theorem from_step (lp : List (Int × ByteArray)) (k : Nat) : (fun z => if (k : Int) = z then none else from_ lp k z) = from_ lp (k + 1) := by
  funext z
  unfold from_
  by_cases h1 : (k : Int) = z
  · rw [if_pos h1, if_pos (by omega)]
  · by_cases h2 : z < (k : Int)
    · rw [if_neg h1, if_pos h2, if_pos (by omega)]
    · rw [if_neg h1, if_neg h2, if_neg (by omega)]
theorem sec_from (ls : List ByteArray) (lp : List (Int × ByteArray)) (k : Nat) (h : k < ls.length) : secD (flTo ls lp k) (from_ lp k) k = readD ls lp k := by
  unfold secD from_ readD
  rw [if_neg (by omega)]
  cases lastOf lp (k : Int) with
  | some y => rfl
  | none =>
    show (flTo ls lp k).getD k ByteArray.empty = _
    rw [List.getD_eq_getElem?_getD, flTo_at ls lp k h]
    simp [h]

set_option maxRecDepth 100000 in
set_option maxHeartbeats 2000000 in
theorem flush_any (gs gm n c B : Nat) (ls : List ByteArray) (lp : List (Int × ByteArray)) (w : World) (hs : StrsAt w gs 0 ls) (hm : HasMap w gm n (lastOf lp)) (hne : gs ≠ gm) (hgs : gs < w.heap.size) (hB1 : B ≤ gs) (hB2 : B ≤ gm) (h1 : ls.length ≤ 64) (h2 : ∀ y ∈ lp, 0 ≤ y.1 ∧ y.2.size ≤ 2000000) :
    Calls Tryz.prog 85 #[.agg #[.slice (some ⟨gs, 0, none⟩) ls.length c, .map (some gm)]] w fun e w' => e = .returned (.agg #[.slice (some ⟨gs, 0, none⟩) ls.length c, .slice none 0 0]) ∧ StrsAt w' gs 0 (flushD ls lp) ∧ Below B w w' := by
  have hgm := hm.lt
  have hmf : ∀ (fn : Fn) (first cap : Array Value) (w : World), (Instr.makeFunc fn first cap).run Tryz.prog w = .ok (.func fn first cap) w := fun _ _ _ _ => rfl
  have HS : Hid (StrsAt w gs 0 ls) := hs
  have HM : Hid (HasMap w gm n (lastOf lp)) := hm
  have H2 : Hid (∀ y ∈ lp, 0 ≤ y.1 ∧ y.2.size ≤ 2000000) := h2
  have H3 : Hid (∀ k z y, from_ lp k z = some y → y.2.size ≤ 2000000) := fun k z y e => by
    unfold from_ at e
    split at e
    · cases e
    · exact (h2 y (lastOf_mem e).1).2
  clear hs hm h2
  go_enter Tryz.func85, Tryz.ntmps85
  go_wp2_with fail
  go_loopw [11] (fun i wr => ∃ k : Nat, k ≤ ls.length ∧ i = .int .i64 k ∧ StrsAt wr gs 0 (flTo ls lp k) ∧ HasMap wr gm n (from_ lp k) ∧ Below B w wr ∧ w.heap.size + 2 ≤ wr.heap.size ∧ HasRow wr w.heap.size [.slice (some ⟨gs, 0, none⟩) ls.length c, .map (some gm)] 117 ∧ HasRow wr (w.heap.size + 1) [Value.slice none 0 0, Value.slice none 0 0] 29) (fun i _ => ls.length - (intOf i).toNat)
  case atStart =>
    have hb0 : Below w.heap.size w ((w.alloc (.cells #[.slice (some ⟨gs, 0, none⟩) ls.length c, .map (some gm)] 117)).alloc (.cells #[Value.slice none 0 0, Value.slice none 0 0] 29)) := ((Below.refl _ _).alloc (Nat.le_refl _) _).alloc (by simp) _
    exact ⟨0, by omega, rfl, by rw [flTo_start]; exact StrsAt.below HS.out hb0, HasMap.is (HasMap.below HM.out hb0) (from_start lp fun y hy => (H2.out y hy).1), hb0.mono (by omega), by simp, Sha.row_alloc (Sha.row_new w [.slice (some ⟨gs, 0, none⟩) ls.length c, .map (some gm)] 117) _, Sha.row_new_at (w.alloc _) [Value.slice none 0 0, Value.slice none 0 0] 29 _ (by simp)⟩
  case round =>
    obtain ⟨k, hk, rfl, hst, hmap, hbel, hsz, hr0, hr1⟩ := hrel
    by_cases hlt : k < ls.length
    · have hln := length_flTo ls lp k hk
      have p0 : (0 : Int) ≤ (k : Int) := by omega
      have p1 : (k : Int) < (ls.length : Int) := by omega
      have q0 : wr.cell? ⟨w.heap.size, 0, none⟩ = some (.slice (some ⟨gs, 0, none⟩) ls.length c) := Mem.cell_of_row hr0 0
      have q1 : wr.cell? ⟨w.heap.size, 1, none⟩ = some (.map (some gm)) := Mem.cell_of_row hr0 1
      obtain ⟨e1, f1⟩ := hst k (by omega)
      simp only [Nat.zero_add] at e1 f1
      have HK : Hid (Calls Tryz.prog 80 #[.agg #[.slice (some ⟨gs, 0, none⟩) ls.length c, .map (some gm)], .int .i64 (k : Int)] wr.drew fun e w' => e = .returned (.string (readD ls lp k)) ∧ Below wr.heap.size wr w') := by
        unfold Hid
        have h := sector_any (.slice (some ⟨gs, 0, none⟩) (flTo ls lp k).length c) gm n k (flTo ls lp k) (from_ lp k) wr.drew (StrsAt.strs hst c) hmap (by omega) (by omega) (H3.out k)
        rw [hln, sec_from ls lp k hlt] at h
        exact h.mono fun e w' hh => ⟨hh.1, bT (bD (Below.refl _ _)) hh.2⟩
      have HSET : Hid ((flTo ls lp k).set k (readD ls lp k) = flTo ls lp (k + 1)) := flTo_set ls lp k hlt
      have HST : Hid _ := hst
      have HMAP : Hid _ := hmap
      have HBEL : Hid _ := hbel
      have HR0 : Hid _ := hr0
      have HR1 : Hid _ := hr1
      generalize (flTo ls lp k)[k] = t0 at *
      generalize readD ls lp k = t at *
      clear hst hmap hbel hr0 hr1
      go_wp2_with fail
      go_region_held3 (fun w' => w'.cell? ⟨w.heap.size, 0, none⟩ = some (.slice (some ⟨gs, 0, none⟩) ls.length c))
        (first
          | go_keep
          | (rw [hb1.cell (by simp; omega)]; simp [*])
          | (rw [World.cell?_setCell_other _ _ _ _ (by intro e; injection e with e _ _; omega)]; exact g3))
        (first | (go_at_call 80; refine (HK.out).mono ?_; rintro e w1 ⟨rfl, hb1⟩; have g1 : w1.cell? ⟨gs, k, none⟩ = some (.string t0) := (hb1.cell (by simp; omega)).trans e1; have g2 : w1.frozen? ⟨gs, k, none⟩ = false := (hb1.frozen (by simp; omega)).trans f1; have g3 : w1.cell? ⟨w.heap.size, 0, none⟩ = some (.slice (some ⟨gs, 0, none⟩) ls.length c) := (hb1.cell (by simp; omega)).trans q0; have g4 : w1.cell? ⟨w.heap.size, 1, none⟩ = some (.map (some gm)) := (hb1.cell (by simp; omega)).trans q1))
      have HM1 : Hid (HasMap (w1.setCell ⟨gs, k, none⟩ (.string t)) gm n (from_ lp k)) := (HasMap.below HMAP.out hb1).setCell (by simpa using hne.symm) _
      have g4' : (w1.setCell ⟨gs, k, none⟩ (.string t)).cell? ⟨w.heap.size, 1, none⟩ = some (.map (some gm)) := by rw [World.cell?_setCell_other _ _ _ _ (by intro e; injection e with e _ _; omega)]; exact g4
      have HST1 : Hid (StrsAt (w1.setCell ⟨gs, k, none⟩ (.string t)) gs 0 (flTo ls lp (k + 1))) := by
        unfold Hid
        rw [← HSET.out]
        have := (StrsAt.below HST.out hb1).set (i := k) (by omega) t
        simpa using this
      have HB1 : Hid (Below B w (w1.setCell ⟨gs, k, none⟩ (.string t))) := (HBEL.out.trans (hb1.mono (by omega))).setCell (p := ⟨gs, k, none⟩) hB1 _
      have HRA : Hid (HasRow (w1.setCell ⟨gs, k, none⟩ (.string t)) w.heap.size [.slice (some ⟨gs, 0, none⟩) ls.length c, .map (some gm)] 117) := Sha.row_other (Sha.row_below HR0.out hb1 (by omega)) _ _ (by simp; omega)
      have HRB : Hid (HasRow (w1.setCell ⟨gs, k, none⟩ (.string t)) (w.heap.size + 1) [Value.slice none 0 0, Value.slice none 0 0] 29) := Sha.row_other (Sha.row_below HR1.out hb1 (by omega)) _ _ (by simp; omega)
      have HWF : Hid ((Lit.int .i64 (k : Int)).wf = true) := WalkArith.wf_i64 (by omega)
      have hz1 := hb1.size
      clear g1 g2 g3 g4 e1 f1 q0 q1 hb1
      go_wp2_with (at_delete; refine wp_map_drop _ rfl _ _ rfl gm n _ HM1.out (k : Int) rfl rfl HWF.out ?_; intro w2 hm2 hg2; have HM2 : Hid _ := hm2; have HG2 : Hid _ := hg2; clear hm2 hg2)
      have hgz := HG2.out.size
      simp at hgz
      go_roundw
      case rel => exact ⟨k + 1, by omega, by go_num, StrsAt.grown HST1.out HG2.out hne, HasMap.is HM2.out (from_step lp k), (Only.of_grown (p := fun b => b = gm) HG2.out rfl).below HB1.out (by simp; omega) (fun b hb e => by omega), by omega, row_grown HRA.out HG2.out (by simp; omega), row_grown HRB.out HG2.out (by simp; omega)⟩
      case measure => simp [intOf]; omega
    · have e : k = ls.length := by omega
      subst e
      rw [flTo_end ls lp (fun y hy => (H2.out y hy).1)] at hst
      have q0 : wr.cell? ⟨w.heap.size, 0, none⟩ = some (.slice (some ⟨gs, 0, none⟩) ls.length c) := Mem.cell_of_row hr0 0
      have q1 : wr.cell? ⟨w.heap.size + 1, 0, none⟩ = some (.slice none 0 0) := Mem.cell_of_row hr1 0
      have q2 : wr.cell? ⟨w.heap.size + 1, 1, none⟩ = some (.slice none 0 0) := Mem.cell_of_row hr1 1
      have q3 := Mem.frozen_of_row hr1
      have HST : Hid _ := hst
      have HBEL : Hid _ := hbel
      clear hst hmap hbel hr0 hr1
      go_wp2_with fail
      refine bodyPost_ret (v := .agg #[.slice (some ⟨gs, 0, none⟩) ls.length c, .slice none 0 0]) (by simp [results, Tryz.results85, go_sem, q1, q2]) rfl ⟨rfl, ?_, ?_⟩
      · exact StrsAt.other (StrsAt.other HST.out (by simp; omega) _) (by simp; omega) _
      · exact (HBEL.out.setCell (p := ⟨w.heap.size + 1, 0, none⟩) (by simp; omega) _).setCell (p := ⟨w.heap.size + 1, 1, none⟩) (by simp; omega) _
end Go.Proofs.YtnfidmjplhmblaaGreatDoor.Disk
