/- Laws that the proof rests on, put together: What the program's look at rising shards answers. What the program's Spread answers. -/
import Derived.Test.YtkanhjafchiikaaSortPure
import Derived.Test.YtkanhjafchiikaaImplCut
import Derived.Deep.QuietTactic
import Derived.BigQuiet
import Derived.Test.YtkanhjafchiikaaTextsD
/- What the program's look at rising shards answers. -/
namespace Go.Proofs.Ytkanhjafchiikaa.Srt
open Go.RowKit Go.Proofs.Ytkanhjafchiikaa.Mem Go.Proofs.Ytkanhjafchiikaa.Harn Go.Proofs.Ytkanhjafchiikaa.Gf

theorem ret_bool {a b : Bool} (h : a = b) : Ending.returned (.bool a) = .returned (.bool b) := by rw [h]
/-- may this be a shard of a text of s bytes, of n and m pieces? -/
def okS (n m s : Nat) (x : E) : Bool := decide (0 ≤ x.1) && decide (x.1 < (n : Int) + m) && decide (x.2.size = plen n s)

set_option maxRecDepth 100000 in
set_option maxHeartbeats 1000000 in
theorem shardRight_any (x : Int) (t : ByteArray) (n m s : Nat) (w : World) (hn : 0 < n) (hn2 : n ≤ 100) (hm : m ≤ 100) (hs : s ≤ 1000) :
    Calls Try.prog 49 #[.agg #[.int .i64 x, .string t], .int .i64 (n : Nat), .int .i64 (m : Nat), .int .i64 (s : Nat)] w fun e w' => e = .returned (.bool (okS n m s (x, t))) ∧ Below w.heap.size w w' := by
  have HE : Hid (okS n m s (x, t) = (decide (0 ≤ x) && decide (x < (n : Int) + m) && decide (t.size = plen n s))) := rfl
  have HPS : Hid (∀ W, Calls Try.prog 56 #[.int .i64 (n : Nat), .int .i64 (s : Nat)] W fun e w' => e = .returned (.int .i64 (plen n s : Nat)) ∧ w' = W) := fun W => (pieceSize_any n s W hn (by omega) hs).mono fun _ _ h => ⟨h.1, h.2.symm⟩
  generalize okS n m s (x, t) = z at *
  have hpl := plen_small (need := n) (size := s) hn
  generalize plen n s = L at *
  by_cases h0 : 0 ≤ x
  · by_cases h1 : x < (n : Int) + (m : Int)
    · have HE' : Hid (z = decide (t.size = L)) := by show _ = _; rw [HE.out, decide_eq_true h0, decide_eq_true h1]; rfl
      have hq : (((t.size : Int)) == (L : Int)) = decide (t.size = L) := by
        by_cases e : t.size = L
        · rw [decide_eq_true e, beq_iff_eq]; omega
        · rw [decide_eq_false e, beq_eq_false_iff_ne]; omega
      have d0 : decide (0 ≤ x) = true := decide_eq_true h0
      have d1 : decide (x < (n : Int) + (m : Int)) = true := decide_eq_true h1
      clear HE
      go_enter Try.func49, Try.ntmps49
      go_wp2_with fail
      go_quiet ((go_at_call 56; exact Calls.quiet_of_same (HPS.out _)))
      go_wp2
      go_ret
      exact ⟨ret_bool HE'.out.symm, Sha.bel_drewN ((Below.refl _ _).alloc (Nat.le_refl _) _) _⟩
    · have HE' : Hid (z = false) := by show _ = _; rw [HE.out, decide_eq_false h1]; simp
      have d0 : decide (0 ≤ x) = true := decide_eq_true h0
      have d1 : decide (x < (n : Int) + (m : Int)) = false := decide_eq_false h1
      clear HE
      go_enter Try.func49, Try.ntmps49
      go_wp2_with fail
      go_quiet (fail)
      go_wp2
      go_ret
      exact ⟨ret_bool HE'.out.symm, Sha.bel_drewN ((Below.refl _ _).alloc (Nat.le_refl _) _) _⟩
  · have HE' : Hid (z = false) := by show _ = _; rw [HE.out, decide_eq_false h0]; simp
    have d0 : decide (0 ≤ x) = false := decide_eq_false h0
    clear HE
    go_enter Try.func49, Try.ntmps49
    go_wp2_with fail
    go_quiet (fail)
    go_wp2
    go_ret
    exact ⟨ret_bool HE'.out.symm, Sha.bel_drewN ((Below.refl _ _).alloc (Nat.le_refl _) _) _⟩

/-- are these rising shards those of a text? -/
def rightAt (n m s : Nat) (l : List E) (i : Nat) : Bool := okS n m s (l[i]?.getD dE) && (decide (i = 0) || decide (kat l i ≠ kat l (i - 1)))
def rightB (n m s : Nat) (l : List E) : Bool := (List.range l.length).all (rightAt n m s l)
theorem rightB_no {n m s : Nat} {l : List E} {i : Nat} (hi : i < l.length) (h : rightAt n m s l i = false) : rightB n m s l = false := by
  unfold rightB; rw [List.all_eq_false]; exact ⟨i, by simpa using hi, by simp [h]⟩
theorem rightB_yes {n m s : Nat} {l : List E} (h : ∀ i, i < l.length → rightAt n m s l i = true) : rightB n m s l = true := by
  unfold rightB; rw [List.all_eq_true]; intro i hi; exact h i (by simpa using hi)
end Go.Proofs.Ytkanhjafchiikaa.Srt

/- What the program's Spread answers. -/
namespace Go.Proofs.Ytkanhjafchiikaa.Gf
open Go.RowKit Go.Proofs.Ytkanhjafchiikaa.Mem Go.Proofs.Ytkanhjafchiikaa.Harn

theorem make_strs0 (c : Nat) (hc : c ≤ 1000) (w : World) :
    ∃ W1, (Instr.makeSlice 25 (.int .i64 0) (.int .i64 (c : Int))).run Try.prog w = .ok (.slice (some ⟨w.heap.size, 0, none⟩) 0 c) W1 ∧ OwnS W1 w.heap.size (.slice (some ⟨w.heap.size, 0, none⟩) 0 c) [] ∧ Below w.heap.size w W1 ∧ W1.heap.size = w.heap.size + 1 := by
  obtain ⟨i, hi0, hz0, hz1, hz2⟩ := info_parts infoStr
  have h := run_make (P := Try.prog) w 25 9 i (.string ByteArray.empty) underStrs hi0 hz0 .i64 .i64 0 (c : Int) (by omega) (by omega) (by rw [hz2]; omega) (by omega)
  simp only [Int.toNat_natCast, Int.toNat_zero] at h
  refine ⟨_, h, w.ownsRow_made _ c (Nat.le_refl _) (by unfold maxLen; omega) ?_, (Below.refl _ _).alloc (Nat.le_refl _) _, by simp⟩
  simp [madeCells, hz1, Value.cells]

set_option maxRecDepth 100000 in
set_option maxHeartbeats 1000000 in
theorem implSpread_any (t : ByteArray) (need more : Int) (w : World) :
    Calls Try.prog 8 #[.string t, .int .i64 need, .int .i64 more] w fun e w' => ∃ u, e = .returned u ∧ OwnS w' w.heap.size u (spreadO t need more) ∧ Below w.heap.size w w' := by
  have HF : Hid (∀ W, Calls Try.prog 29 #[.int .i64 need, .int .i64 more, .int .i64 (t.size : Nat)] W fun e w' => e = .returned (.bool (fineB need more (t.size : Nat))) ∧ W = w') := fun W => groupRight_any need more _ W
  by_cases hf : fineB need more (t.size : Nat) = true
  · have hE : spreadO t need more = (spreadL (nb t) need.toNat more.toNat).map toB := by unfold spreadO; rw [if_pos hf]
    obtain ⟨n, m, s, rfl, rfl, hss, g1, g2, g3, g4, g5⟩ := fine_parts hf
    have hss' : t.size = s := by omega
    rw [hf] at HF
    have e1 : ((n : Nat) : Int).toNat = n := by omega
    have e2 : ((m : Nat) : Int).toNat = m := by omega
    rw [hE, e1, e2]
    have HSP : Hid ((spreadL (nb t) n m).map toB = (firsts (nb t) n).map toB ++ (rests (firsts (nb t) n) n (plen n t.size) m).map toB) := by
      show _ = _
      unfold spreadL; rw [List.map_append, nb_len]
    have HCT : Hid (∀ W, Calls Try.prog 30 #[.string t, .int .i64 (n : Nat)] W fun e w' => ∃ g, e = .returned (.slice (some ⟨g, 0, none⟩) n n) ∧ Lists .u8 w' (.slice (some ⟨g, 0, none⟩) n n) (firsts (nb t) n) ∧ Below W.heap.size W w') := fun W => cutText_any t n W g1 g2 (by omega) (by omega)
    have HFP : Hid (∀ W, Calls Try.prog 31 #[.int .i64 (n : Nat)] W fun e w' => ∃ c, e = .returned (.slice (some ⟨W.heap.size, 0, none⟩) n c) ∧ NumsK .i64 w' (.slice (some ⟨W.heap.size, 0, none⟩) n c) (List.range n) ∧ Below W.heap.size W w') := fun W => firstPlaces_any n W (by omega)
    have hpos := plen_pos (need := n) (size := t.size) (by omega) (by omega)
    have hLs := plen_small (need := n) (size := t.size) (by omega)
    have HFA : Hid (∀ p ∈ firsts (nb t) n, p.length = plen n t.size) := fun p hp => by have := firsts_all (nb t) n p hp; rw [nb_len] at this; exact this
    have HFE : Hid (∀ p ∈ firsts (nb t) n, Els p) := firsts_els (nb_els t) n
    have HFL : Hid ((firsts (nb t) n).length = n) := firsts_len _ _
    have hLn : plen n t.size ≤ 1000 := by omega
    generalize plen n t.size = L at *
    generalize firsts (nb t) n = ps at *
    have HRS : Hid (∀ k, (rests ps n L (k + 1)).map toB = (rests ps n L k).map toB ++ [toB (mixed (weight (List.range n) (n + k)) ps L)]) := fun k => by rw [rests_succ, List.map_append]; rfl
    have HRL : Hid (∀ k, ((rests ps n L k).map toB).length = k) := fun k => by simp [rests]
    have HME : Hid (∀ k, Els (mixed (weight (List.range n) (n + k)) ps L) ∧ (mixed (weight (List.range n) (n + k)) ps L).length = L) := fun k => ⟨mixed_els _ _ _ (weight_lt _ _), mixed_len _ _ _⟩
    have HTK : Hid (∀ k (h : k < ps.length), (ps.take (k + 1)).map toB = (ps.take k).map toB ++ [toB ps[k]]) := fun k h => by rw [List.take_succ_eq_append_getElem h, List.map_append]; rfl
    have HTL : Hid (∀ k, k ≤ ps.length → ((ps.take k).map toB).length = k) := fun k h => by simp; omega
    clear hE hss hss' e1 e2 hf hLs
    go_enter Try.func8, Try.ntmps8
    go_wp2_with (go_at_call 29; refine (HF.out _).mono ?_; rintro e w' ⟨rfl, rfl⟩)
    refine (HCT.out _).mono ?_
    rintro e w1 ⟨g, rfl, hli, hb1⟩
    have HB1 : Hid (Below w.heap.size w w1) := hb1
    have HLI1 : Hid (Lists .u8 w1 (.slice (some ⟨g, 0, none⟩) n n) ps) := hli
    clear hli hb1
    go_wp2_with fail
    refine (HFP.out _).mono ?_
    rintro e w2 ⟨cx, rfl, hnu, hb2⟩
    have HB2 : Hid (Below w.heap.size w w2) := bstep HB1.out hb2
    have HLI2 : Hid (Lists .u8 w2 (.slice (some ⟨g, 0, none⟩) n n) ps) := HLI1.out.below hb2
    generalize w1.heap.size = gx at *
    have HNU2 : Hid (NumsK .i64 w2 (.slice (some ⟨gx, 0, none⟩) n cx) (List.range n)) := hnu
    clear hnu hb2 HB1 HLI1
    obtain ⟨W1, hmk, how, hb3, hz3⟩ := make_strs0 (n + m) (by omega) w2
    have e1 : ((n + m : Nat) : Int) = (n : Int) + (m : Int) := by push_cast; rfl
    rw [e1] at hmk
    have HB3 : Hid (Below w2.heap.size w2 W1) := hb3
    have HOW : Hid (OwnS W1 w2.heap.size (.slice (some ⟨w2.heap.size, 0, none⟩) 0 (n + m)) ((ps.take 0).map toB)) := how
    clear how hb3 hz3 e1
    go_wp2
    go_loopw [9, 30] (fun v i wr => ∃ k : Nat, k ≤ n ∧ i = .int .i64 k ∧ OwnS wr w2.heap.size v ((ps.take k).map toB) ∧ Below w2.heap.size w2 wr) (fun _ i _ => n - (intOf i).toNat)
    case atStart => exact ⟨0, by omega, rfl, HOW.out, HB3.out⟩
    case round =>
      obtain ⟨k, hk, rfl, hown, hbel⟩ := hrel
      have HOWN : Hid (OwnS wr w2.heap.size u9 ((ps.take k).map toB)) := hown
      have HBEL : Hid (Below w2.heap.size w2 wr) := hbel
      have hzz : w2.heap.size ≤ wr.heap.size := hbel.size
      clear HOW HB3 hmk
      by_cases hlt : k < n
      · have hpl := HFL.out
        obtain ⟨a, cap, hv, hc⟩ := HLI2.out
        rw [hpl] at hv
        injection hv with hv1 hv2 hv3
        subst hv1 hv3
        obtain ⟨b, o, u, hbo, d1, hnu⟩ := hc k (by omega)
        injection hbo with hbo
        injection hbo with q1 q2 _
        subst q1 q2
        rw [Nat.zero_add] at d1
        have c1 : wr.cell? ⟨g, k, none⟩ = _ := (hbel.cell (World.block_lt_of_cell? w2 _ d1)).trans d1
        have hcv := conv_nums (hnu.below hbel) (HFE.out _ (List.getElem_mem (by omega))) (by rw [HFA.out _ (List.getElem_mem (by omega))]; omega)
        obtain ⟨au, cu, rfl⟩ := hnu.shape
        have HTE : Hid _ := HTK.out k (by omega)
        have HTN : Hid (((ps.take k).map toB).length = k) := HTL.out k (by omega)
        rw [HFA.out _ (List.getElem_mem (by omega))] at c1 hcv
        generalize toB ps[k] = y at *
        generalize (ps.take k).map toB = l at *
        have p1 : (k : Int) < (n : Int) := by omega
        clear hown hbel hpl hc d1 hnu hv2
        go_wp2_with (at_builtin; refine wp_str (by rfl) _ _ (by rfl) w2.heap.size wr.heap.size u9 l y (by rfl) (by rfl) (OwnS.alloc HOWN.out _) (size_new hzz _) (cell_new _ _ _) (by have := HTN.out; omega) ?_; intro g3 cap3 w3 ho3 hb3 hz3; have HO3 : Hid _ := ho3; have HB5 : Hid _ := hb3; clear ho3 hb3)
        go_roundw
        case rel => exact ⟨k + 1, by omega, by go_num, by rw [HTE.out]; exact HO3.out, ((HBEL.out.alloc HBEL.out.size _).trans HB5.out)⟩
        case measure => simp [intOf]; omega
      · obtain rfl : k = n := by omega
        have HOW4 : Hid (OwnS wr w2.heap.size u9 (ps.map toB ++ (rests ps k L 0).map toB)) := by
          have h := HOWN.out
          rw [List.take_of_length_le (by rw [HFL.out]; omega)] at h
          have e : (rests ps k L 0).map toB = [] := rfl
          rw [e, List.append_nil]; exact h
        clear hown hbel HOWN HTK HTL
        have HR1 : Hid (∀ j, ps.map toB ++ (rests ps k L (j + 1)).map toB = (ps.map toB ++ (rests ps k L j).map toB) ++ [toB (mixed (weight (List.range k) (k + j)) ps L)]) := fun j => by rw [HRS.out j, List.append_assoc]
        have HR2 : Hid (∀ j, (ps.map toB ++ (rests ps k L j).map toB).length = k + j) := fun j => by rw [List.length_append, HRL.out, List.length_map, HFL.out]
        have HEND : Hid ((spreadL (nb t) k m).map toB = ps.map toB ++ (rests ps k L m).map toB) := HSP.out
        clear HRS HRL HSP
        generalize hrr : (fun j => ps.map toB ++ (rests ps k L j).map toB) = rr at *
        have HRR : Hid (∀ j, ps.map toB ++ (rests ps k L j).map toB = rr j) := fun j => by rw [← hrr]
        have HOW5 : Hid (OwnS wr w2.heap.size u9 (rr 0)) := by rw [← HRR.out]; exact HOW4.out
        have HR1' : Hid (∀ j, rr (j + 1) = rr j ++ [toB (mixed (weight (List.range k) (k + j)) ps L)]) := fun j => by rw [← HRR.out, ← HRR.out]; exact HR1.out j
        have HR2' : Hid (∀ j, (rr j).length = k + j) := fun j => by rw [← HRR.out]; exact HR2.out j
        have HEND' : Hid ((spreadL (nb t) k m).map toB = rr m) := by rw [← HRR.out]; exact HEND.out
        clear hrr HRR HOW4 HR1 HR2 HEND
        go_wp2
        go_loopw [9, 41] (fun v i wr => ∃ j : Nat, j ≤ m ∧ i = .int .i64 j ∧ OwnS wr w2.heap.size v (rr j) ∧ Below w2.heap.size w2 wr) (fun _ i _ => m - (intOf i).toNat)
        case atStart => exact ⟨0, by omega, rfl, HOW5.out, HBEL.out⟩
        case round =>
          obtain ⟨j, hj, rfl, hown, hbel⟩ := hrel
          have HOWN : Hid (OwnS wr w2.heap.size u9 (rr j)) := hown
          have HBEL : Hid (Below w2.heap.size w2 wr) := hbel
          clear HOW5
          by_cases hlm : j < m
          · clear hown hbel
            have p1 : (j : Int) < (m : Int) := by omega
            go_wp2_with fail
            have e1 : ((k : Int) + (j : Int)) = ((k + j : Nat) : Int) := by push_cast; rfl
            rw [e1]
            refine (countsAt_any _ (List.range k) (k + j) _ (HNU2.out.below HBEL.out)).mono ?_
            rintro e w3 ⟨bx, bt, rfl, hcl, hb3⟩
            have HB3 : Hid (Below wr.heap.size wr w3) := hb3
            have HCL : Hid (Clos w3 bx bt (List.range k) (k + j)) := hcl
            clear hcl hb3 e1
            go_wp2_with fail
            refine (mixB_any _ ps L bx bt (List.range k) (k + j) _ ((HLI2.out.below HBEL.out).below HB3.out) (by rw [HFL.out]; omega) HFA.out HFE.out HCL.out (range_els (by omega)) (by omega) (by rw [HFL.out]; simp) (by simp; omega) hLn).mono ?_
            rintro e w4 ⟨rfl, hr4, hb4⟩
            have hb34 : Below wr.heap.size wr w4 := bstep HB3.out hb4
            have HB4 : Hid (Below w2.heap.size w2 w4) := bstep HBEL.out hb34
            have HO4 : Hid (OwnS w4 w2.heap.size u9 (rr j)) := OwnS.below HOWN.out hb34 (Nat.le_refl _)
            obtain ⟨hme, hml⟩ := HME.out j
            have hcv := conv_nums (W := w4) (v := .slice (some ⟨w3.heap.size, 0, none⟩) L L) (l := mixed (weight (List.range k) (k + j)) ps L) ⟨_, L, by rw [hml], fun i hi => ⟨_, 0, rfl, by rw [Nat.zero_add, Mem.cell_of_row hr4]; simp [ncells, hi]⟩⟩ hme (by omega)
            have HRJ : Hid _ := HR1'.out j
            have HRN : Hid ((rr j).length = k + j) := HR2'.out j
            have hzz4 := HB4.out.size
            generalize toB (mixed (weight (List.range k) (k + j)) ps L) = y at *
            clear hr4 hb4 hb34 hme hml
            go_wp2_with (at_builtin; refine wp_str (by rfl) _ _ (by rfl) w2.heap.size w4.heap.size u9 (rr j) y (by rfl) (by rfl) (OwnS.alloc HO4.out _) (size_new hzz4 _) (cell_new _ _ _) (by have := HRN.out; omega) ?_; intro g3 cap3 w5 ho5 hb5 hz5; have HO5 : Hid _ := ho5; have HB5 : Hid _ := hb5; clear ho5 hb5)
            go_roundw
            case rel => exact ⟨j + 1, by omega, by go_num, by rw [HRJ.out]; exact HO5.out, ((HB4.out.alloc HB4.out.size _).trans HB5.out)⟩
            case measure => simp [intOf]; omega
          · obtain rfl : j = m := by omega
            go_wp2
            go_ret
            exact ⟨_, rfl, by rw [HEND'.out]; exact OwnV.below HOWN.out (Below.refl _ _) HB2.out.size, HB2.out.trans (HBEL.out.mono HB2.out.size)⟩
  · have hf' : fineB need more (t.size : Nat) = false := by simpa using hf
    have hE : spreadO t need more = [] := by unfold spreadO; rw [hf']; rfl
    rw [hE]
    rw [hf'] at HF
    clear hf hf' hE
    go_enter Try.func8, Try.ntmps8
    go_wp2_with (first | (go_at_call 29; refine (HF.out _).mono ?_; rintro e w' ⟨rfl, rfl⟩))
    go_ret
    exact ⟨_, rfl, World.ownsRow_nil _ _ _ _, Below.refl _ _⟩
end Go.Proofs.Ytkanhjafchiikaa.Gf
