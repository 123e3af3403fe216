/- What the model's gathering of a row answers. -/
import Derived.Test.YtkanhjafchiikaaTextsG
import Derived.Test.YtkanhjafchiikaaTextsC
import Derived.Test.YtkanhjafchiikaaSpecRow
import Derived.Deep.QuietTactic
import Derived.BigQuiet
namespace Go.Proofs.Ytkanhjafchiikaa.Srt
open Go.RowKit Go.Proofs.Ytkanhjafchiikaa.Mem Go.Proofs.Ytkanhjafchiikaa.Harn Go.Proofs.Ytkanhjafchiikaa.Gf

def keyC (r : List E) (k : Nat) : List Value := (r.take k).map fun e => .int .i64 e.1
def datC (r : List E) (k : Nat) : List Value := (r.take k).map fun e => .string e.2
theorem keyC_len (r : List E) (k : Nat) (h : k ≤ r.length) : (keyC r k).length = k := by simp [keyC]; omega
theorem datC_len (r : List E) (k : Nat) (h : k ≤ r.length) : (datC r k).length = k := by simp [datC]; omega
theorem keyC_succ (r : List E) (k : Nat) (h : k < r.length) : keyC r (k + 1) = keyC r k ++ [.int .i64 r[k].1] := by
  unfold keyC; rw [List.take_succ_eq_append_getElem h, List.map_append]; rfl
theorem datC_succ (r : List E) (k : Nat) (h : k < r.length) : datC r (k + 1) = datC r k ++ [.string r[k].2] := by
  unfold datC; rw [List.take_succ_eq_append_getElem h, List.map_append]; rfl
theorem keyC_nums {W : World} {base : Nat} {v : Value} {r : List E} {k : Nat} (h : OwnV 2 W base v (keyC r k)) (h0 : ∀ e ∈ r, 0 ≤ e.1) : NumsK .i64 W v (xsOf (r.take k)) := by
  obtain ⟨a, cap, rfl, _, hc⟩ := OwnV.cells h
  have hl : (keyC r k).length = (xsOf (r.take k)).length := by simp [keyC, xsOf]
  refine ⟨a, cap, by rw [hl], fun j hj => ?_⟩
  obtain ⟨g, rfl, c, _⟩ := hc j (by omega)
  refine ⟨g, 0, rfl, ?_⟩
  rw [Nat.zero_add, c]
  have hj2 : j < (r.take k).length := by simpa [xsOf] using hj
  have := h0 _ (List.mem_of_mem_take (List.getElem_mem hj2))
  rw [List.getElem_take] at this
  have hj3 : j < k := by simp at hj2; omega
  have hj4 : j < r.length := by simp at hj2; omega
  simp [keyC, xsOf, hj3, hj4]; omega
theorem datC_strs {W : World} {base : Nat} {v : Value} {r : List E} {k : Nat} (h : OwnV 9 W base v (datC r k)) : Strs W v ((r.take k).map Prod.snd) := by
  obtain ⟨a, cap, rfl, _, hc⟩ := OwnV.cells h
  have hl : (datC r k).length = ((r.take k).map Prod.snd).length := by simp [datC]
  refine ⟨a, cap, by rw [hl], fun j hj => ?_⟩
  obtain ⟨g, rfl, c, _⟩ := hc j (by omega)
  refine ⟨g, 0, rfl, ?_⟩
  rw [Nat.zero_add, c]
  have hj2 : j < k ∧ j < r.length := by simp at hj; omega
  simp [datC, hj2.1, hj2.2]

theorem slice_head (tx : ByteArray) (b : Nat) (hb : b ≤ tx.size) (W : World) : (Instr.slice 9 (.string tx) none (some (.int .i64 (b : Int))) none).run Try.prog W = .ok (.string (tx.extract 0 b)) W := by
  simp [Instr.slice, Instr.sliceBounds, run_underlying Join.underS, go_sem, hb]

set_option maxRecDepth 100000 in
set_option maxHeartbeats 4000000 in
theorem specGath_any (n m s : Nat) (a : Option Addr) (cap : Nat) (r : List E) (w : World) (h : Pends w (.slice a r.length cap) r) (hl : r.length ≤ 400) (q1 : 1 ≤ n) (q2 : n ≤ 6) (q3 : m ≤ 4) (q4 : 1 ≤ s) (q5 : s ≤ 100) (hn : n ≤ r.length) (hok : ∀ e ∈ r, okS n m s e = true) :
    Calls Try.prog 42 #[.int .i64 (n : Nat), .int .i64 (m : Nat), .int .i64 (s : Nat), .slice a r.length cap] w fun e w' => e = .returned (outT (gatherS n m s r)) ∧ Below w.heap.size w w' := by
  obtain ⟨a', cap', hv, hc⟩ := h
  injection hv with hv1 _ hv3
  subst hv1 hv3
  obtain ⟨b, o, rfl, _⟩ := hc 0 (by omega)
  have HSH : Hid (ShAt w b o r) := fun j hj => by
    obtain ⟨b', o', hbo, c1, c2⟩ := hc j hj
    injection hbo with hbo
    injection hbo with e1 e2 _
    subst e1 e2
    exact ⟨c1, c2⟩
  have HOK : Hid (∀ e ∈ r, 0 ≤ e.1 ∧ e.1 < (n : Int) + m ∧ e.2.size = plen n s) := fun e he => okS_iff.1 (hok e he)
  have HPL : Hid (1 ≤ plen n s ∧ plen n s ≤ 106 ∧ s ≤ n * plen n s) := ⟨plen_pos (by omega) (by omega), by have := plen_small (need := n) (size := s) (by omega); omega, plen_ge (by omega)⟩
  have HGS : Hid (gatherS n m s r = if (r.all (sameB (restS (firstT (r.take n) (plen n s) n) n (plen n s) m)) && zeroes (wholeT (r.take n) (plen n s) n) s) = true then ((wholeT (r.take n) (plen n s) n).extract 0 s, 0) else (ByteArray.empty, 5)) := rfl
  have HPS : Hid (psOf (r.take n) = ((r.take n).map Prod.snd).map nb) := by show _ = _; unfold psOf; rw [List.map_map]; rfl
  have HW0 : Hid (Box3 (w.alloc (.cells #[.string ByteArray.empty, .int .i64 0, .int .i64 0] 32)) w.heap.size) := box3_new w
  have HRN : Hid (n ≤ r.length) := hn
  obtain ⟨L, hL⟩ : ∃ L, L = plen n s := ⟨_, rfl⟩
  rw [← hL] at HOK HPL HGS
  clear hc hok hL
  go_enter Try.func42, Try.ntmps42
  go_wp2
  obtain ⟨W1, hW1⟩ : ∃ W1, W1 = w.alloc (.cells #[.string { data := #[] }, .int .i64 0, .int .i64 0] 32) := ⟨_, rfl⟩
  have HZ1 : Hid (W1.heap.size = w.heap.size + 1) := by show _ = _; rw [hW1]; simp
  have HB1 : Hid (Below w.heap.size w W1) := by rw [hW1]; exact bself1 _
  have HX1 : Hid (Box3 W1 w.heap.size) := by rw [hW1]; exact HW0.out
  have HS1 : Hid (ShAt W1 b o r) := HSH.out.below HB1.out
  rw [← hW1]
  clear hW1 HW0
  go_loopw [9, 10, 11] (fun xv hv i wr => ∃ k : Nat, k ≤ n ∧ i = .int .i64 k ∧ Two 2 9 wr W1.heap.size xv (keyC r k) hv (datC r k) ∧ Below W1.heap.size W1 wr) (fun _ _ i _ => n - (intOf i).toNat)
  case atStart =>
    refine ⟨0, by omega, rfl, ?_, ((Below.refl _ _).alloc (Nat.le_refl _) _).alloc (by simp) _⟩
    rw [← HZ1.out]
    exact two_empty 2 9 W1 _ (Nat.le_refl _)
  case round =>
    obtain ⟨k, hk, rfl, htwo, hbel⟩ := hrel
    have HT : Hid (Two 2 9 wr W1.heap.size u9 (keyC r k) u10 (datC r k)) := htwo
    have HBEL : Hid (Below W1.heap.size W1 wr) := hbel
    have hz := hbel.size
    clear htwo
    generalize wr = wa at *
    by_cases hlt : k < n
    · have hkr : k < r.length := by have := HRN.out; omega
      have HSW : Hid (ShAt wa b o r) := HS1.out.below hbel
      obtain ⟨c1, c2⟩ := HSW.out k hkr
      have HC2 := shut (HS1.out k hkr).2
      have HKS : Hid _ := keyC_succ r k hkr
      have HDS : Hid _ := datC_succ r k hkr
      have HKL : Hid ((keyC r k).length ≤ 1000) := by have := keyC_len r k (by omega); show _ ≤ _; omega
      have HDL : Hid ((datC r k).length ≤ 1000) := by have := datC_len r k (by omega); show _ ≤ _; omega
      generalize keyC r k = cs at *
      generalize datC r k = ds at *
      generalize r[k].1 = x at *
      generalize r[k].2 = t at *
      have p1 : (k : Int) < (n : Int) := by omega
      have p2 : (k : Int) < (r.length : Int) := by omega
      have p3 : (n : Int) ≤ 6 := by omega
      clear hbel
      go_wp2_with (first
        | (at_builtin; refine wp_two (by rfl) _ _ 25 9 2 (.string ByteArray.empty) 16 (by rfl) underStrs infoStr rfl (by omega) W1.heap.size w3.heap.size u10 _ ds (cs ++ [.int .i64 x]) (.string t) (by rfl) (by rfl) ((HT3.out.swap).alloc _) (size_new HZ3.out _) (cell_new _ _ _) rfl (by have := HDL.out; omega) ?_; intro g4 c4 w4 h4 hb4 hz4; have HT4 := shut h4.swap; have HV4 := shut (HV3.out.alloc HZ3.out _ |>.trans hb4); clear h4 hb4 hz4)
        | (at_builtin; refine wp_two (by rfl) _ _ 58 2 9 (.int .i64 0) 8 (by rfl) underI64s infoI64' rfl (by omega) W1.heap.size wa.heap.size u9 u10 cs ds (.int .i64 x) (by rfl) (by rfl) (HT.out.alloc _) (size_new hz _) (cell_new _ _ _) rfl (by have := HKL.out; omega) ?_; intro g3 c3 w3 h3 hb3 hz3; have HT3 := shut h3; have HV3 := shut ((HBEL.out.alloc hz _).trans hb3); have HZ3 := shut HV3.out.size; have c3' : w3.cell? ⟨b, o + k * 2 + 1, none⟩ = some (.string t) := Sha.bel_cell HV3.out HC2.out; clear h3 hb3 hz3))
      exact ⟨⟨k + 1, by omega, by go_num, by rw [HKS.out, HDS.out]; exact HT4.out, HV4.out⟩, by simp [intOf]; omega⟩
    · obtain rfl : k = n := by omega
      have HNU : Hid (NumsK .i64 wa u9 (xsOf (r.take k))) := keyC_nums HT.out.l (fun e he => (HOK.out e he).1)
      have HST : Hid (Strs wa u10 ((r.take k).map Prod.snd)) := datC_strs HT.out.r
      have HSA : Hid (ShAt wa b o r) := HS1.out.below hbel
      have HXA : Hid (Box3 wa w.heap.size) := HX1.out.below hbel (by rw [HZ1.out]; omega)
      have HBA : Hid (Below w.heap.size w wa) := bstep HB1.out hbel
      have hza : w.heap.size < wa.heap.size := by have h1 := HZ1.out; omega
      have hkr : k ≤ r.length := HRN.out
      have HXE : Hid (Els (xsOf (r.take k))) := fun x hx => by
        obtain ⟨e, he, rfl⟩ := List.mem_map.1 hx
        have := HOK.out e (List.mem_of_mem_take he); omega
      have HXN : Hid ((xsOf (r.take k)).length = k) := by show _ = _; simp [xsOf]; omega
      have HDN : Hid (((r.take k).map Prod.snd).length = k) := by show _ = _; simp; omega
      have HDZ : Hid (∀ t ∈ (r.take k).map Prod.snd, t.size = L) := fun t ht => by
        obtain ⟨e, he, rfl⟩ := List.mem_map.1 ht
        exact (HOK.out e (List.mem_of_mem_take he)).2.2
      have HMX : Hid (∀ i W, i < k → Below wa.heap.size wa W → Calls Try.prog 65 #[u9, u10, .int .i64 (i : Nat)] W fun e w' => e = .returned (.string (toB (mixed (weight (xsOf (r.take k)) i) (psOf (r.take k)) L))) ∧ Below W.heap.size W w') := fun i W hi hW => by
        rw [HPS.out]
        have hpl := HPL.out
        exact specMix_any u9 u10 _ _ i L W (HNU.out.below hW) (Strs.below HST.out hW) HXE.out (by omega) (by rw [HXN.out]; omega) (by rw [HXN.out, HDN.out]) (by rw [HXN.out]; omega) HDZ.out (by omega)
      have HFS : Hid (∀ i, firstT (r.take k) L (i + 1) = firstT (r.take k) L i ++ [toB (mixed (weight (xsOf (r.take k)) i) (psOf (r.take k)) L)]) := firstT_succ _ _
      have HFL : Hid (∀ i, (firstT (r.take k) L i).length = i) := firstT_len _ _
      have HFZ : Hid (∀ t ∈ firstT (r.take k) L k, t.size = L) := firstT_size _ _ _
      have HWS : Hid (∀ i, wholeT (r.take k) L (i + 1) = wholeT (r.take k) L i ++ toB (mixed (weight (xsOf (r.take k)) i) (psOf (r.take k)) L)) := wholeT_succ _ _
      have HWZ : Hid (∀ i, (wholeT (r.take k) L i).size = i * L) := wholeT_size _ _
      have HW00 : Hid (wholeT (r.take k) L 0 = { data := #[] }) := rfl
      have HMZ : Hid (∀ i, (toB (mixed (weight (xsOf (r.take k)) i) (psOf (r.take k)) L)).size = L) := fun i => by rw [toB_size, mixed_len]
      clear hbel HT HBEL HPS
      generalize hFT : firstT (r.take k) L = FT at *
      generalize hWT : wholeT (r.take k) L = WT at *
      generalize hMT : (fun i => toB (mixed (weight (xsOf (r.take k)) i) (psOf (r.take k)) L)) = MT at *
      have HM : Hid (∀ i, toB (mixed (weight (xsOf (r.take k)) i) (psOf (r.take k)) L) = MT i) := fun i => by rw [← hMT]
      clear hFT hWT hMT
      have HF0 : Hid (FT 0 = []) := List.length_eq_zero_iff.1 (HFL.out 0)
      go_wp2
      go_loopw [12, 13, 14] (fun fv tv i wr => ∃ j : Nat, j ≤ k ∧ i = .int .i64 j ∧ OwnS wr wa.heap.size fv (FT j) ∧ tv = .string (WT j) ∧ Below wa.heap.size wa wr) (fun _ _ i _ => k - (intOf i).toNat)
      case atStart => exact ⟨0, by omega, rfl, by rw [HF0.out]; exact ownV_empty _ wa _ (Nat.le_refl _), by rw [HW00.out], bself1 _⟩
      case round =>
        obtain ⟨j, hj, rfl, hown, rfl, hbel⟩ := hrel
        have HOWN : Hid (OwnS wr wa.heap.size u12 (FT j)) := hown
        have HBEL : Hid (Below wa.heap.size wa wr) := hbel
        clear hown
        by_cases hlt : j < k
        · have HMJ : Hid (Calls Try.prog 65 #[u9, u10, .int .i64 (j : Nat)] wr fun e w' => e = .returned (.string (MT j)) ∧ Below wr.heap.size wr w') := by rw [← HM.out]; exact HMX.out j wr hlt hbel
          have HFJ : Hid (FT (j + 1) = FT j ++ [MT j]) := by show _ = _; rw [HFS.out, HM.out]
          have HWJ : Hid (WT (j + 1) = WT j ++ MT j) := by show _ = _; rw [HWS.out, HM.out]
          have hl1 := HWZ.out j
          have hl2 := HMZ.out j
          rw [HM.out] at hl2
          have hpl := HPL.out
          have hjl : j * L ≤ 6 * 106 := Nat.mul_le_mul (by omega) (by omega)
          have hq : (WT j).size + (MT j).size ≤ 1000 := by omega
          have HLJ : Hid ((FT j).length = j) := HFL.out j
          have p1 : (j : Int) < (k : Int) := by omega
          have p2 : (k : Int) ≤ 6 := by omega
          generalize FT j = fl at *
          generalize WT j = wt at *
          generalize MT j = mt at *
          have q8 : ¬ 9223372036854775807 < wt.size + mt.size := by omega
          have hq' : (wt.size : Int) + (mt.size : Int) ≤ 1000 := by omega
          clear hl1 hl2 hpl hjl hbel hq
          go_wp2_with fail
          refine HMJ.out.mono ?_
          rintro e w3 ⟨rfl, hb3⟩
          have HB3 : Hid (Below wa.heap.size wa w3) := bstep HBEL.out hb3
          have HO3 : Hid (OwnS w3 wa.heap.size u12 fl) := OwnS.below HOWN.out hb3 (Nat.le_refl _)
          have hz3 := HB3.out.size
          clear hb3
          go_wp2_with (at_builtin; refine wp_str (by rfl) _ _ (by rfl) wa.heap.size w3.heap.size u12 fl mt (by rfl) (by rfl) (OwnS.alloc HO3.out _) (size_new hz3 _) (cell_new _ _ _) (by have := HLJ.out; omega) ?_; intro g4 c4 w4 ho4 hb4 hz4; have HO4 := shut ho4; have HB4 := shut ((HB3.out.alloc HB3.out.size _).trans hb4); clear ho4 hb4 hz4)
          exact ⟨⟨j + 1, by omega, by go_num, by rw [HFJ.out]; exact HO4.out, by rw [HWJ.out], HB4.out⟩, by simp [intOf]; omega⟩
        · obtain rfl : j = k := by omega
          have HRS : Hid (Calls Try.prog 60 #[u12, .int .i64 (j : Nat), .int .i64 (m : Nat)] wr fun e w' => ∃ g cap, e = .returned (.slice (some ⟨g, 0, none⟩) (j + m) cap) ∧ OwnS w' wr.heap.size (.slice (some ⟨g, 0, none⟩) (j + m) cap) (restS (FT j) j L m) ∧ Below wr.heap.size wr w') :=
            specRest_any u12 (FT j) j m L wr HOWN.out.strs (by omega) (HFL.out j) (by omega) (by omega) HFZ.out (by have := HPL.out; omega)
          have HRL : Hid ((restS (FT j) j L m).length = j + m) := by show _ = _; rw [restS_len, HFL.out]
          generalize restS (FT j) j L m = AL at *
          have HTZ : Hid ((WT j).size = j * L) := HWZ.out j
          generalize WT j = wt at *
          have HSR : Hid (ShAt wr b o r) := HSA.out.below hbel
          have HXR : Hid (Box3 wr w.heap.size) := HXA.out.below hbel hza
          have HBR : Hid (Below w.heap.size w wr) := bstep HBA.out hbel
          have hzr : w.heap.size < wr.heap.size := by have := hbel.size; omega
          clear hbel
          go_wp2_with fail
          refine HRS.out.mono ?_
          rintro e w5 ⟨gA, cA, rfl, ho5, hb5⟩
          have HS5 : Hid (ShAt w5 b o r) := HSR.out.below hb5
          have HX5 : Hid (Box3 w5 w.heap.size) := HXR.out.below hb5 hzr
          have HB5 : Hid (Below w.heap.size w w5) := bstep HBR.out hb5
          have HA5 : Hid (∀ q (h : q < AL.length), w5.cell? ⟨gA, q, none⟩ = some (.string AL[q])) := fun q hq => by
            obtain ⟨a', cap', hv, hc⟩ := OwnS.strs ho5
            injection hv with hv1 _ _
            subst hv1
            obtain ⟨b', o', hbo, c⟩ := hc q hq
            injection hbo with hbo
            injection hbo with e1 e2 _
            subst e1 e2
            rw [Nat.zero_add] at c; exact c
          clear ho5 hb5 HRS HSR HXR HBR hzr
          go_wp2
          go_loopw [17] (fun i wr => ∃ p : Nat, p ≤ r.length ∧ i = .int .i64 p ∧ (∀ i (_ : i < p) (h : i < r.length), sameB AL r[i] = true) ∧ ∃ nd, wr = w5.drewN nd) (fun i _ => r.length - (intOf i).toNat)
          case atStart => exact ⟨0, by omega, rfl, fun i hi => by omega, 0, rfl⟩
          case round =>
            obtain ⟨p, hp, rfl, hsame, nd, rfl⟩ := hrel
            have HSM : Hid (∀ i (_ : i < p) (h : i < r.length), sameB AL r[i] = true) := hsame
            clear hsame
            by_cases hltp : p < r.length
            · obtain ⟨c1, c2⟩ := HS5.out p hltp
              have hok3 := HOK.out _ (List.getElem_mem hltp)
              obtain ⟨q, hq⟩ := Int.eq_ofNat_of_zero_le hok3.1
              have hln := HRL.out
              have c3 := HA5.out q (by omega)
              have HSP : Hid (sameB AL r[p] = true ↔ AL[q]'(by omega) = r[p].2) := by
                show _ ↔ _
                unfold sameB
                rw [hq, Int.toNat_natCast, List.getElem?_eq_getElem (by omega), decide_eq_true_iff, Option.some.injEq]
              rw [hq] at c1
              have p1 : (p : Int) < (r.length : Int) := by omega
              have p2 : (q : Int) < ((j + m : Nat) : Int) := by omega
              have p3 : (q : Int) < (j : Int) + (m : Int) := by omega
              have p4 : (0 : Int) ≤ (q : Int) := by omega
              have p5 : (0 : Int) ≤ (p : Int) := by omega
              generalize AL[q]'(by omega) = y at *
              generalize r[p].2 = t at *
              by_cases hty : y = t
              · have e1 : (y.toList != t.toList) = false := by rw [hty]; simp
                have e2 : (y.toList == t.toList) = true := by rw [hty]; simp
                have HPY : Hid (sameB AL r[p] = true) := HSP.out.2 hty
                clear hty HSP hq
                go_wp2_with fail
                go_quiet (fail)
                go_wp2
                refine ⟨⟨p + 1, by omega, by go_num, fun i hi hir => ?_, _, rfl⟩, by simp [intOf]; omega⟩
                rcases Nat.lt_or_ge i p with h | h
                · exact HSM.out i h hir
                · obtain rfl : i = p := by omega
                  exact HPY.out
              · have hne : y.toList ≠ t.toList := fun e => hty (by
                  rw [ByteArray.toList_eq, ByteArray.toList_eq] at e
                  apply ByteArray.ext; apply Array.ext'; exact e)
                have e1 : (y.toList != t.toList) = true := bne_iff_ne.2 hne
                have e2 : (y.toList == t.toList) = false := beq_eq_false_iff_ne.2 hne
                have HG2 : Hid (gatherS j m s r = (ByteArray.empty, 5)) := by
                  have h2 : r.all (sameB AL) = false := by
                    rw [List.all_eq_false]
                    refine ⟨_, List.getElem_mem hltp, ?_⟩
                    intro h3; exact hty (HSP.out.1 h3)
                  show _ = _
                  rw [HGS.out, h2]; rfl
                obtain ⟨r0, r1, r2, r3⟩ := HX5.out.cells
                clear hty HSP hq
                go_wp2_with fail
                go_quiet (fail)
                go_wp2
                have HEND := (((Sha.bel_drewN HB5.out (nd + nq)).setCell (p := ⟨w.heap.size, 0, none⟩) (Nat.le_refl _) (.string ByteArray.empty)).setCell (p := ⟨w.heap.size, 1, none⟩) (Nat.le_refl _) (.int .i64 0)).setCell (p := ⟨w.heap.size, 2, none⟩) (Nat.le_refl _) (.int .i64 5)
                exact bodyPost_ret (v := outT (ByteArray.empty, 5)) (by simp [results, Try.results42, go_sem, outT, r0, r1, r2]; try rfl) rfl ⟨by rw [HG2.out], HEND⟩
            · obtain rfl : p = r.length := by omega
              have HAL : Hid (r.all (sameB AL) = true) := by
                show _ = _
                rw [List.all_eq_true]
                intro e he
                obtain ⟨i, hi, rfl⟩ := List.getElem_of_mem he
                exact HSM.out i hi hi
              have HG2 : Hid (gatherS j m s r = if zeroes wt s = true then (wt.extract 0 s, 0) else (ByteArray.empty, 5)) := by show _ = _; rw [HGS.out, HAL.out, Bool.true_and]
              obtain ⟨r0, r1, r2, r3⟩ := HX5.out.cells
              have HB6 : Hid (Below w.heap.size w (w5.drewN nd)) := Sha.bel_drewN HB5.out nd
              have hsz := HTZ.out
              have hpl := HPL.out
              have hw1 : wt.size ≤ 1000 := by
                have : j * L ≤ 6 * 106 := Nat.mul_le_mul (by omega) (by omega)
                omega
              have hw2 : s ≤ wt.size := by omega
              clear hsz hpl
              go_wp2
              go_loop [18] (fun i => ∃ p : Nat, s ≤ p ∧ p ≤ wt.size ∧ i = .int .i64 p ∧ ∀ i (hi : i < wt.size), s ≤ i → i < p → wt[i] = 0) (fun i => wt.size - (intOf i).toNat)
              case atStart => exact ⟨s, by omega, hw2, rfl, fun i hi h1 h2 => by omega⟩
              case round =>
                obtain ⟨p, hp1, hp2, rfl, hzer⟩ := hrel
                have HZR : Hid (∀ i (hi : i < wt.size), s ≤ i → i < p → wt[i] = 0) := hzer
                clear hzer
                by_cases hlp : p < wt.size
                · by_cases hb0 : wt[p] = 0
                  · have e1 : (((wt[p]).toNat : Int) != 0) = false := by rw [hb0]; rfl
                    have e2 : (((wt[p]).toNat : Int) == 0) = true := by rw [hb0]; rfl
                    have e3 : ((wt[p]).toNat : Int) = 0 := by rw [hb0]; rfl
                    have HB0 : Hid (wt[p] = 0) := hb0
                    have p1 : (p : Int) < (wt.size : Int) := by omega
                    clear hb0
                    generalize hy : wt[p] = y at *
                    go_wp2
                    refine ⟨⟨p + 1, by omega, by omega, by go_num, fun i hi h1 h2 => ?_⟩, by simp [intOf]; omega⟩
                    rcases Nat.lt_or_ge i p with h | h
                    · exact HZR.out i hi h1 h
                    · obtain rfl : i = p := by omega
                      exact hy.trans HB0.out
                  · have e1 : (((wt[p]).toNat : Int) != 0) = true := by
                      rw [bne_iff_ne]
                      intro h
                      apply hb0
                      have h2 : (wt[p]).toNat = 0 := by omega
                      exact UInt8.toNat_inj.1 (by rw [h2]; rfl)
                    have e2 : (((wt[p]).toNat : Int) == 0) = false := by
                      rw [beq_eq_false_iff_ne]
                      exact bne_iff_ne.1 e1
                    have HG3 : Hid (gatherS j m s r = (ByteArray.empty, 5)) := by show _ = _; rw [HG2.out, zeroes_no hp1 hlp hb0]; rfl
                    have p1 : (p : Int) < (wt.size : Int) := by omega
                    have e6 : ¬ (((wt[p]).toNat : Int) = 0) := bne_iff_ne.1 e1
                    have e5 : ¬ ((wt[p]).toNat = 0) := by omega
                    generalize hy : wt[p] = y at *
                    go_wp2
                    exact bodyPost_ret (v := outT (ByteArray.empty, 5)) (by simp [results, Try.results42, go_sem, outT, r0, r1, r2]; try rfl) rfl ⟨by rw [HG3.out], (((HB6.out).setCell (p := ⟨w.heap.size, 0, none⟩) (Nat.le_refl _) _).setCell (p := ⟨w.heap.size, 1, none⟩) (Nat.le_refl _) _).setCell (p := ⟨w.heap.size, 2, none⟩) (Nat.le_refl _) _⟩
                · obtain rfl : p = wt.size := by omega
                  have HG3 : Hid (gatherS j m s r = (wt.extract 0 s, 0)) := by
                    show _ = _
                    rw [HG2.out, zeroes_yes (fun i hi h => HZR.out i hi h hi)]; rfl
                  have hsl : ∀ W, (Instr.slice 9 (.string wt) none (some (.int .i64 (s : Int))) none).run Try.prog W = .ok (.string (wt.extract 0 s)) W := fun W => slice_head wt s hw2 W
                  generalize wt.extract 0 s = out at *
                  go_wp2
                  exact bodyPost_ret (v := outT (out, 0)) (by simp [results, Try.results42, go_sem, outT, r0, r1, r2]; try rfl) rfl ⟨by rw [HG3.out], (((HB6.out).setCell (p := ⟨w.heap.size, 0, none⟩) (Nat.le_refl _) _).setCell (p := ⟨w.heap.size, 1, none⟩) (Nat.le_refl _) _).setCell (p := ⟨w.heap.size, 2, none⟩) (Nat.le_refl _) _⟩
end Go.Proofs.Ytkanhjafchiikaa.Srt
