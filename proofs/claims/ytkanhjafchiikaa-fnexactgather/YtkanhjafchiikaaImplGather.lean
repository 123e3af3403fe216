/- What the program's Gather answers. -/
import Derived.Test.YtkanhjafchiikaaImplGath
import Derived.Test.YtkanhjafchiikaaTextsE
namespace Go.Proofs.Ytkanhjafchiikaa.Srt
open Go.RowKit Go.Proofs.Ytkanhjafchiikaa.Mem Go.Proofs.Ytkanhjafchiikaa.Harn Go.Proofs.Ytkanhjafchiikaa.Gf

theorem str_eq' {a b : ByteArray} (h : a.toList = b.toList) : a = b := by
  rw [ByteArray.toList_eq, ByteArray.toList_eq] at h
  apply ByteArray.ext; apply Array.ext'; exact h
theorem bselfG {w : World} (o : Obj) : Below w.heap.size w (w.alloc o) := (Below.refl _ _).alloc (Nat.le_refl _) _
/-- 'l[:n]' of shards -/
theorem slice_shards (b o j n c : Nat) (hj : j ≤ n) (hc : n ≤ c) (i : Int) (hi : i = j) (W : World) :
    (Instr.slice 27 (.slice (some ⟨b, o, none⟩) n c) none (some (.int .i64 i)) none).run Try.prog W = .ok (.slice (some ⟨b, o, none⟩) j c) W := by
  subst hi
  have h1 : j ≤ c := by omega
  simp [Instr.slice, Instr.sliceBounds, run_underlying underShards, go_sem, h1]

set_option maxRecDepth 100000 in
set_option maxHeartbeats 1000000 in
theorem implGather_big (need more size : Int) (a : Option Addr) (cap : Nat) (l : List E) (w : World) (hb : 400 < l.length) (_ : l.length ≤ 1100000) :
    Calls Try.prog 12 #[.int .i64 need, .int .i64 more, .int .i64 size, .slice a l.length cap] w fun e w' => e = .returned (outT (ByteArray.empty, 2)) ∧ Below w.heap.size w w' := by
  have p1 : (400 : Int) < (l.length : Int) := by omega
  go_enter Try.func12, Try.ntmps12
  go_wp2
  exact bodyPost_ret (v := outT (ByteArray.empty, 2)) (by simp [results, Try.results12, go_sem, outT]; rfl) rfl ⟨rfl, (Below.refl _ _).alloc (Nat.le_refl _) _⟩

set_option maxRecDepth 100000 in
set_option maxHeartbeats 2000000 in
theorem implGather_any (need more size : Int) (a : Option Addr) (cap : Nat) (l : List E) (w : World) (h : Pends w (.slice a l.length cap) l) (hb : l.length ≤ 400) :
    Calls Try.prog 12 #[.int .i64 need, .int .i64 more, .int .i64 size, .slice a l.length cap] w fun e w' => (∃ l', l'.Perm l ∧ Sorted l' 0 l'.length ∧ e = .returned (outT (gatherR need more size l'))) ∧ Below w.heap.size w w' := by
  have p1 : ¬ (400 : Int) < (l.length : Int) := by omega
  have HRI : Hid (∀ W, Below w.heap.size w W → Calls Try.prog 38 #[.slice a l.length cap] W fun e w' => ∃ a cap l', e = .returned (.slice a l.length cap) ∧ l'.Perm l ∧ Sorted l' 0 l.length ∧ Pends w' (.slice a l.length cap) l' ∧ l.length ≤ cap ∧ Below W.heap.size W w') := fun W hB => rising_any _ l W (Pends.below h hB) (by omega)
  have HGR : Hid (∀ W, Calls Try.prog 29 #[.int .i64 need, .int .i64 more, .int .i64 size] W fun e w' => e = .returned (.bool (fineB need more size)) ∧ W = w') := fun W => groupRight_any need more size W
  have HLB : Hid (l.length ≤ 400) := hb
  clear h hb
  by_cases hf : fineB need more size = true
  · obtain ⟨n, m, s, rfl, rfl, rfl, q1, q2, q3, q4, q5⟩ := fine_parts hf
    have HO : Hid (∀ l', gatherR (n : Nat) (m : Nat) (s : Nat) l' = if rightB n m s l' = true then (if l'.length < n then (ByteArray.empty, 4) else if (l'.all (pieceB n m (gatherT n s l'))) = true then (gatherT n s l', 0) else (ByteArray.empty, 5)) else (ByteArray.empty, 1)) := fun l' => by
      unfold gatherR
      rw [hf]
      simp only [Bool.true_and, Int.toNat_natCast, Int.ofNat_lt]
    have HF : Hid (fineB (n : Nat) (m : Nat) (s : Nat) = true) := hf
    rw [hf] at HGR
    have HPL : Hid (1 ≤ plen n s ∧ plen n s ≤ 106 ∧ s ≤ n * plen n s) := ⟨plen_pos (by omega) (by omega), by have := plen_small (need := n) (size := s) (by omega); omega, plen_ge (by omega)⟩
    clear hf
    go_enter Try.func12, Try.ntmps12
    go_wp2_with fail
    refine (HRI.out _ (bselfG _)).mono ?_
    rintro e w2 ⟨a2, cap2, l', rfl, hperm, hsort, hpen, hcap, hb2⟩
    have HB2 : Hid (Below w.heap.size w w2) := bstep (bselfG _) hb2
    have HX2 : Hid (Box3 w2 w.heap.size) := (box3_new w).below hb2 (by simp)
    have HL : Hid (l'.length = l.length) := hperm.length_eq
    have HP : Hid (l'.Perm l) := hperm
    have HS : Hid (Sorted l' 0 l'.length) := by rw [HL.out]; exact hsort
    rw [← HL.out] at hpen hcap ⊢
    have HPEN : Hid (Pends w2 (.slice a2 l'.length cap2) l') := hpen
    have hz2 : w.heap.size < w2.heap.size := by have := hb2.size; simp at this; omega
    have HLB2 : Hid (l'.length ≤ 400) := by rw [HL.out]; exact HLB.out
    clear hb2 hperm hsort hpen HRI
    go_wp2_with fail
    refine (HGR.out _).mono ?_
    rintro e w2' ⟨rfl, rfl⟩
    go_wp2_with fail
    refine (shardsRight_any _ l' n m s w2 HPEN.out (by have := HLB2.out; omega) (by omega) (by omega) (by omega) (by omega)).mono ?_
    rintro e w3 ⟨rfl, hb3⟩
    have HB3 : Hid (Below w.heap.size w w3) := bstep HB2.out hb3
    have HX3 : Hid (Box3 w3 w.heap.size) := HX2.out.below hb3 hz2
    have HPEN3 : Hid (Pends w3 (.slice a2 l'.length cap2) l') := Pends.below HPEN.out hb3
    have hz3 : w.heap.size < w3.heap.size := by have := hb3.size; omega
    clear hb3 HB2 HX2 HPEN hz2
    by_cases hr : rightB n m s l' = true
    · have HO' : Hid (gatherR (n : Nat) (m : Nat) (s : Nat) l' = if l'.length < n then (ByteArray.empty, 4) else if (l'.all (pieceB n m (gatherT n s l'))) = true then (gatherT n s l', 0) else (ByteArray.empty, 5)) := by show _ = _; rw [HO.out, if_pos hr]
      have HRB : Hid (∀ x ∈ l', okS n m s x = true) := rightB_ok hr
      rw [hr]
      clear hr HO
      by_cases hn : l'.length < n
      · obtain ⟨r0, r1, r2, r3⟩ := HX3.out.cells
        have HO2 : Hid (gatherR (n : Nat) (m : Nat) (s : Nat) l' = (ByteArray.empty, 4)) := by show _ = _; rw [HO'.out, if_pos hn]
        have p2 : (l'.length : Int) < (n : Int) := by omega
        clear HO'
        go_wp2
        refine bodyPost_ret (v := outT (ByteArray.empty, 4)) (by simp [results, Try.results12, go_sem, outT, r0, r1, r2]; try rfl) rfl ⟨⟨l', HP.out, HS.out, by rw [HO2.out]⟩, ((HB3.out.setCell (p := ⟨w.heap.size, 0, none⟩) (Nat.le_refl _) _).setCell (p := ⟨w.heap.size, 1, none⟩) (Nat.le_refl _) _).setCell (p := ⟨w.heap.size, 2, none⟩) (Nat.le_refl _) _⟩
      · have HO2 : Hid (gatherR (n : Nat) (m : Nat) (s : Nat) l' = if (l'.all (pieceB n m (gatherT n s l'))) = true then (gatherT n s l', 0) else (ByteArray.empty, 5)) := by show _ = _; rw [HO'.out, if_neg hn]
        have p2 : ¬ (l'.length : Int) < (n : Int) := by omega
        clear HO' HGR
        obtain ⟨a3, cap3, hv, hc⟩ := HPEN3.out
        injection hv with hv1 _ hv3
        subst hv1 hv3
        obtain ⟨b, o, rfl, _⟩ := hc 0 (by omega)
        have HCELL : Hid (∀ j (h : j < l'.length), w3.cell? ⟨b, o + j * 2, none⟩ = some (.int .i64 l'[j].1) ∧ w3.cell? ⟨b, o + j * 2 + 1, none⟩ = some (.string l'[j].2)) := fun j hj => by
          obtain ⟨b', o', hbo, c1, c2⟩ := hc j hj
          injection hbo with hbo
          injection hbo with e1 e2 _
          subst e1 e2
          exact ⟨c1, c2⟩
        have hsl := slice_shards b o n l'.length cap2 (by omega) hcap (n : Int) rfl
        have htl : (l'.take n).length = n := by simp; omega
        have HGA : Hid (Calls Try.prog 40 #[.slice (some ⟨b, o, none⟩) n cap2, .int .i64 (s : Nat)] w3 fun e w' => e = .returned (.string (gatherT n s l')) ∧ Below w3.heap.size w3 w') := by
          have hpl := HPL.out
          have h := gathered_any (some ⟨b, o, none⟩) cap2 (l'.take n) s (plen n s) w3 ⟨_, cap2, rfl, fun j hj => ?_⟩ (by rw [htl]; omega) (by rw [htl]; omega) (by omega) (by omega) (by omega) (by rw [htl]; exact hpl.2.2) (fun e he => ?_)
          · rw [htl] at h; exact h
          · have hj2 : j < l'.length := by rw [htl] at hj; omega
            obtain ⟨c1, c2⟩ := HCELL.out j hj2
            have e : (l'.take n)[j] = l'[j] := by simp
            rw [e]
            exact ⟨b, o, rfl, c1, c2⟩
          · have h3 := okS_iff.1 (HRB.out e (List.mem_of_mem_take he))
            omega
        have htz := gatherT_size (s := s) l' (show 0 < n by omega)
        have HSP : Hid (∀ W, Calls Try.prog 8 #[.string (gatherT n s l'), .int .i64 (n : Nat), .int .i64 (m : Nat)] W fun e w' => ∃ u, e = .returned u ∧ OwnS w' W.heap.size u ((spreadL (nb (gatherT n s l')) n m).map toB) ∧ Below W.heap.size W w') := fun W => by
          have h := implSpread_any (gatherT n s l') (n : Nat) (m : Nat) W
          have e : spreadO (gatherT n s l') (n : Nat) (m : Nat) = (spreadL (nb (gatherT n s l')) n m).map toB := by
            unfold spreadO
            rw [htz, if_pos HF.out]; simp
          rw [e] at h; exact h
        have HPC : Hid (∀ i, i < n + m → ((spreadL (nb (gatherT n s l')) n m).map toB)[i]? = some (toB ((spreadL (nb (gatherT n s l')) n m).getD i []))) := fun i hi => spread_getD_len _ _ _ _ hi
        have HLN : Hid (((spreadL (nb (gatherT n s l')) n m).map toB).length = n + m) := by show _ = _; rw [List.length_map, spreadL_len]
        have HPB : Hid (∀ e : E, pieceB n m (gatherT n s l') e = decide (e.2 = toB ((spreadL (nb (gatherT n s l')) n m).getD e.1.toNat []))) := fun e => rfl
        obtain ⟨T, hT⟩ : ∃ T, T = gatherT n s l' := ⟨_, rfl⟩
        rw [← hT] at HO2 HGA HSP HPC HLN HPB
        clear hT htz hc htl hcap
        generalize hG : (fun i => toB ((spreadL (nb T) n m).getD i [])) = G at *
        have HG : Hid (∀ i, toB ((spreadL (nb T) n m).getD i []) = G i) := fun i => by rw [← hG]
        generalize (spreadL (nb T) n m).map toB = ps at *
        clear hG
        go_wp2_with fail
        refine HGA.out.mono ?_
        rintro e w4 ⟨rfl, hb4⟩
        have HB4 : Hid (Below w.heap.size w w4) := bstep HB3.out hb4
        have HX4 : Hid (Box3 w4 w.heap.size) := HX3.out.below hb4 hz3
        have HC4 : Hid (∀ j (h : j < l'.length), w4.cell? ⟨b, o + j * 2, none⟩ = some (.int .i64 l'[j].1) ∧ w4.cell? ⟨b, o + j * 2 + 1, none⟩ = some (.string l'[j].2)) := fun j hj => ⟨Sha.bel_cell hb4 (HCELL.out j hj).1, Sha.bel_cell hb4 (HCELL.out j hj).2⟩
        have hz4 : w.heap.size < w4.heap.size := by have := hb4.size; omega
        clear hb4 HB3 HX3 HPEN3 HCELL hz3 hsl HGA
        go_wp2_with fail
        refine (HSP.out _).mono ?_
        rintro e w5 ⟨u, rfl, hown, hb5⟩
        have HB5 : Hid (Below w.heap.size w w5) := bstep HB4.out hb5
        have HX5 : Hid (Box3 w5 w.heap.size) := HX4.out.below hb5 hz4
        have HC5 : Hid (∀ j (h : j < l'.length), w5.cell? ⟨b, o + j * 2, none⟩ = some (.int .i64 l'[j].1) ∧ w5.cell? ⟨b, o + j * 2 + 1, none⟩ = some (.string l'[j].2)) := fun j hj => ⟨Sha.bel_cell hb5 (HC4.out j hj).1, Sha.bel_cell hb5 (HC4.out j hj).2⟩
        have hz5 : w.heap.size < w5.heap.size := by have := hb5.size; omega
        obtain ⟨a6, cap6, rfl, hps⟩ := hown.strs
        have HPS : Hid (∀ j (h : j < ps.length), ∃ b o, a6 = some ⟨b, o, none⟩ ∧ w5.cell? ⟨b, o + j, none⟩ = some (.string ps[j])) := hps
        rw [HLN.out]
        have hl400 := HLB2.out
        clear hb5 hown hps HB4 HX4 HC4 hz4 HSP
        go_wp2
        go_loopw [50] (fun i wr => ∃ k : Nat, k ≤ l'.length ∧ i = .int .i64 k ∧ (∀ j (_ : j < k) (h : j < l'.length), pieceB n m T l'[j] = true) ∧ Below w5.heap.size w5 wr) (fun i _ => l'.length - (intOf i).toNat)
        case atStart => exact ⟨0, by omega, rfl, fun j hj => by omega, Below.refl _ _⟩
        case round =>
          obtain ⟨k, hk, rfl, hok, hbel⟩ := hrel
          have HOK : Hid (∀ j (_ : j < k) (h : j < l'.length), pieceB n m T l'[j] = true) := hok
          have HBEL : Hid (Below w5.heap.size w5 wr) := hbel
          have HXR : Hid (Box3 wr w.heap.size) := HX5.out.below hbel hz5
          have HBR : Hid (Below w.heap.size w wr) := bstep HB5.out hbel
          have hzr : w.heap.size < wr.heap.size := by have := hbel.size; omega
          have hzr5 := hbel.size
          clear hok
          by_cases hlt : k < l'.length
          · obtain ⟨d1, d2⟩ := HC5.out k hlt
            have c1 : wr.cell? ⟨b, o + k * 2, none⟩ = _ := Sha.bel_cell hbel d1
            have c2 : wr.cell? ⟨b, o + k * 2 + 1, none⟩ = _ := Sha.bel_cell hbel d2
            have hk3 := okS_iff.1 (HRB.out _ (List.getElem_mem hlt))
            have HPK : Hid (pieceB n m T l'[k] = true ↔ l'[k].2 = G l'[k].1.toNat) := by show _ ↔ _; rw [HPB.out, HG.out, decide_eq_true_iff]
            obtain ⟨q, hq⟩ := Int.eq_ofNat_of_zero_le hk3.1
            have hqn : q < n + m := by omega
            have hln := HLN.out
            obtain ⟨b7, o7, rfl, d3⟩ := HPS.out q (by omega)
            have hpq : ps[q]'(by omega) = G q := by
              have h1 := HPC.out q hqn
              rw [HG.out, List.getElem?_eq_getElem (by omega)] at h1
              exact Option.some.inj h1
            rw [hpq] at d3
            have c3 : wr.cell? ⟨b7, o7 + q, none⟩ = _ := Sha.bel_cell hbel d3
            rw [hq] at c1
            rw [hq, Int.toNat_natCast] at HPK
            have p3 : (k : Int) < (l'.length : Int) := by omega
            have p4 : (q : Int) < ((n + m : Nat) : Int) := by omega
            have p4' : (q : Int) < (n : Int) + (m : Int) := by omega
            have p5 : (0 : Int) ≤ (q : Int) := by omega
            have hg7 := World.block_lt_of_cell? wr _ c3
            simp only at hg7
            clear d1 d2 d3 hpq hln hk3
            generalize G q = y at *
            generalize l'[k].2 = t at *
            by_cases hty : t = y
            · have HPY : Hid (pieceB n m T l'[k] = true) := HPK.out.2 hty
              have e1 : (t.toList != y.toList) = false := by rw [hty]; simp
              have e2 : (t.toList == y.toList) = true := by rw [hty]; simp
              clear hty HPK hq
              go_wp2_with fail
              go_quiet (fail)
              go_wp2
              refine ⟨⟨k + 1, by omega, by go_num, fun j hj hjl => ?_, Sha.bel_drewN (HBEL.out.alloc hzr5 _) _⟩, by simp [intOf]; omega⟩
              rcases Nat.lt_or_ge j k with h | h
              · exact HOK.out j h hjl
              · obtain rfl : j = k := by omega
                exact HPY.out
            · have hne : t.toList ≠ y.toList := fun e => hty (str_eq' e)
              have e1 : (t.toList != y.toList) = true := bne_iff_ne.2 hne
              have e2 : (t.toList == y.toList) = false := beq_eq_false_iff_ne.2 hne
              have HPY : Hid (pieceB n m T l'[k] = false) := by
                have h1 := HPK.out
                cases hb : pieceB n m T l'[k] with
                | false => exact rfl
                | true => exact absurd (h1.1 hb) hty
              have HO3 : Hid (gatherR (n : Nat) (m : Nat) (s : Nat) l' = (ByteArray.empty, 5)) := by
                have h2 : l'.all (pieceB n m T) = false := by rw [List.all_eq_false]; exact ⟨_, List.getElem_mem hlt, by rw [HPY.out]; simp⟩
                show _ = _
                rw [HO2.out, h2]; rfl
              obtain ⟨r0, r1, r2, r3⟩ := HXR.out.cells
              clear hty HPK hq
              go_wp2_with fail
              go_quiet (fail)
              go_wp2
              have HEND := ((((Sha.bel_drewN (HBR.out.alloc HBR.out.size (.cells #[.int .i64 (q : Int), .string t] 36)) nq).setCell (p := ⟨w.heap.size, 0, none⟩) (Nat.le_refl _) (.string ByteArray.empty)).setCell (p := ⟨w.heap.size, 1, none⟩) (Nat.le_refl _) (.int .i64 0)).setCell (p := ⟨w.heap.size, 2, none⟩) (Nat.le_refl _) (.int .i64 5))
              refine bodyPost_ret (v := outT (ByteArray.empty, 5)) (by simp [results, Try.results12, go_sem, outT, r0, r1, r2, hzr]; try rfl) rfl ⟨⟨l', HP.out, HS.out, by rw [HO3.out]⟩, HEND⟩
          · obtain rfl : k = l'.length := by omega
            have HO3 : Hid (gatherR (n : Nat) (m : Nat) (s : Nat) l' = (T, 0)) := by
              have h2 : l'.all (pieceB n m T) = true := by
                rw [List.all_eq_true]
                intro e he
                obtain ⟨j, hj, rfl⟩ := List.getElem_of_mem he
                exact HOK.out j hj hj
              show _ = _
              rw [HO2.out, h2]; rfl
            obtain ⟨r0, r1, r2, r3⟩ := HXR.out.cells
            clear hbel
            go_wp2
            refine bodyPost_ret (v := outT (T, 0)) (by simp [results, Try.results12, go_sem, outT, r0, r1, r2]; try rfl) rfl ⟨⟨l', HP.out, HS.out, by rw [HO3.out]⟩, ((HBR.out.setCell (p := ⟨w.heap.size, 0, none⟩) (Nat.le_refl _) _).setCell (p := ⟨w.heap.size, 1, none⟩) (Nat.le_refl _) _).setCell (p := ⟨w.heap.size, 2, none⟩) (Nat.le_refl _) _⟩
    · have hr' : rightB n m s l' = false := by simpa using hr
      have HO' : Hid (gatherR (n : Nat) (m : Nat) (s : Nat) l' = (ByteArray.empty, 1)) := by show _ = _; rw [HO.out, hr']; rfl
      rw [hr']
      clear hr hr'
      obtain ⟨r0, r1, r2, r3⟩ := HX3.out.cells
      go_wp2
      refine bodyPost_ret (v := outT (ByteArray.empty, 1)) (by simp [results, Try.results12, go_sem, outT, r0, r1, r2]; try rfl) rfl ⟨⟨l', HP.out, HS.out, by rw [HO'.out]⟩, ((HB3.out.setCell (p := ⟨w.heap.size, 0, none⟩) (Nat.le_refl _) _).setCell (p := ⟨w.heap.size, 1, none⟩) (Nat.le_refl _) _).setCell (p := ⟨w.heap.size, 2, none⟩) (Nat.le_refl _) _⟩
  · have hf' : fineB need more size = false := by simpa using hf
    have HO : Hid (∀ l', gatherR need more size l' = (ByteArray.empty, 1)) := fun l' => by unfold gatherR; rw [hf']; rfl
    rw [hf'] at HGR
    clear hf hf'
    go_enter Try.func12, Try.ntmps12
    go_wp2_with fail
    refine (HRI.out _ (bselfG _)).mono ?_
    rintro e w2 ⟨a2, cap2, l', rfl, hperm, hsort, _, _, hb2⟩
    have HB2 : Hid (Below w.heap.size w w2) := bstep (bselfG _) hb2
    have HX : Hid (Box3 w2 w.heap.size) := (box3_new w).below hb2 (by simp)
    obtain ⟨r0, r1, r2, r3⟩ := HX.out.cells
    have HL : Hid (l'.length = l.length) := hperm.length_eq
    have HP : Hid (l'.Perm l) := hperm
    have HS : Hid (Sorted l' 0 l'.length) := by rw [HL.out]; exact hsort
    clear hb2 hperm hsort
    go_wp2_with (go_at_call 29; refine (HGR.out _).mono ?_; rintro e w' ⟨rfl, rfl⟩)
    refine bodyPost_ret (v := outT (ByteArray.empty, 1)) (by simp [results, Try.results12, go_sem, outT, r0, r1, r2]; try rfl) rfl ⟨⟨l', HP.out, HS.out, by rw [HO.out]⟩, ((HB2.out.setCell (p := ⟨w.heap.size, 0, none⟩) (Nat.le_refl _) _).setCell (p := ⟨w.heap.size, 1, none⟩) (Nat.le_refl _) _).setCell (p := ⟨w.heap.size, 2, none⟩) (Nat.le_refl _) _⟩
end Go.Proofs.Ytkanhjafchiikaa.Srt
