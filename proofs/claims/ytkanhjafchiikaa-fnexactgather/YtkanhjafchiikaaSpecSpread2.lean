/- What the model's Spread answers, whole. -/
import Derived.Test.YtkanhjafchiikaaTextsE
namespace Go.Proofs.Ytkanhjafchiikaa.Gf
open Go.RowKit Go.Proofs.Ytkanhjafchiikaa.Mem Go.Proofs.Ytkanhjafchiikaa.Harn

theorem mulW {a b : Nat} (h : a * b ≤ 1000000) : IntKind.i64.wrap ((a : Int) * (b : Int)) = ((a * b : Nat) : Int) := by
  rw [← Int.natCast_mul]; exact IntWalk.i64_in _ ⟨by omega, by omega⟩
theorem plen_int {need size : Nat} (h : 0 < need) : ((size : Int) + need - 1) / need = ((plen need size : Nat) : Int) := by
  unfold plen
  have e : ((size : Int) + need - 1) = ((size + need - 1 : Nat) : Int) := by omega
  rw [e]; rfl

theorem specLong_any (need size : Nat) (w : World) (h : 0 < need) (hn : need ≤ 100) (hs : size ≤ 1000) :
    Calls Try.prog 47 #[.int .i64 (need : Nat), .int .i64 (size : Nat)] w fun e w' => e = .returned (.int .i64 (plen need size : Nat)) ∧ w = w' := by
  have HP : Hid (((size : Int) + need - 1) / need = ((plen need size : Nat) : Int)) := plen_int h
  have h0 : ¬ (need : Int) = 0 := by omega
  have h0' : ((need : Int) == 0) = false := by rw [beq_eq_false_iff_ne]; omega
  go_enter Try.func47, Try.ntmps47
  go_wp2
  go_ret
  exact ⟨ret_int HP.out, rfl⟩

theorem specFine_any (need more size : Int) (w : World) :
    Calls Try.prog 37 #[.int .i64 need, .int .i64 more, .int .i64 size] w fun e w' => e = .returned (.bool (fineB need more size)) ∧ w = w' := by
  have HE : Hid (fineB need more size = (isB need 1 6 && isB more 0 4 && isB size 1 100)) := rfl
  by_cases h1 : isB need 1 6 = true
  · by_cases h2 : isB more 0 4 = true
    · rw [h1, h2] at HE
      simp only [Bool.and_self, Bool.true_and] at HE
      generalize fineB need more size = z at *
      go_enter Try.func37, Try.ntmps37
      go_wp2_with (go_at_call 46; refine (l05Is_any _ _ _ _).mono ?_; rintro e w' ⟨rfl, rfl⟩)
      go_ret
      exact ⟨by rw [HE.out]; rfl, rfl⟩
    · have h2' : isB more 0 4 = false := by simpa using h2
      rw [h1, h2'] at HE
      simp only [Bool.and_false, Bool.false_and] at HE
      generalize fineB need more size = z at *
      clear h2
      go_enter Try.func37, Try.ntmps37
      go_wp2_with (go_at_call 46; refine (l05Is_any _ _ _ _).mono ?_; rintro e w' ⟨rfl, rfl⟩)
      go_ret
      exact ⟨by rw [HE.out]; rfl, rfl⟩
  · have h1' : isB need 1 6 = false := by simpa using h1
    rw [h1'] at HE
    simp only [Bool.false_and] at HE
    generalize fineB need more size = z at *
    clear h1
    go_enter Try.func37, Try.ntmps37
    go_wp2_with (go_at_call 46; refine (l05Is_any _ _ _ _).mono ?_; rintro e w' ⟨rfl, rfl⟩)
    go_ret
    exact ⟨by rw [HE.out]; rfl, rfl⟩

theorem slice_text (tx : ByteArray) (a b : Nat) (ha : a ≤ b) (hb : b ≤ tx.size) (i j : Int) (hi : i = a) (hj : j = b) (W : World) : (Instr.slice 9 (.string tx) (some (.int .i64 i)) (some (.int .i64 j)) none).run Try.prog W = .ok (.string (tx.extract a b)) W := by
  subst hi hj
  simp [Instr.slice, Instr.sliceBounds, run_underlying Join.underS, go_sem, ha, hb]

theorem toB_app (a b : List Nat) : toB a ++ toB b = toB (a ++ b) := by
  apply ByteArray.ext
  simp [toB]
theorem toB_extract (l : List Nat) (a b : Nat) : (toB l).extract a b = toB ((l.drop a).take (b - a)) := by
  apply ByteArray.ext
  apply Array.ext'
  simp [toB, List.extract_eq_take_drop]
theorem pad_text (t : ByteArray) (need : Nat) : t ++ toB (List.replicate (need * plen need t.size - t.size) 0) = toB (pad (nb t) need) := by
  conv => lhs; lhs; rw [← toB_nb t]
  rw [toB_app]
  unfold pad
  rw [nb_len]
theorem zeros_cells (n : Nat) : List.replicate n (Value.int .u8 0) = Lib.byteCells ((List.replicate n 0).map UInt8.ofNat) := by
  apply List.ext_getElem
  · simp [Lib.byteCells]
  · intro j h1 h2; simp [Lib.byteCells]

set_option maxRecDepth 100000 in
set_option maxHeartbeats 1000000 in
theorem specSpreadIn_any (t : ByteArray) (need more : Nat) (w : World) (h1 : 1 ≤ need) (h2 : need ≤ 6) (h3 : more ≤ 4) (h4 : 1 ≤ t.size) (h5 : t.size ≤ 100) :
    Calls Try.prog 35 #[.string t, .int .i64 (need : Nat), .int .i64 (more : Nat)] w fun e w' => ∃ g cap, e = .returned (.slice (some ⟨g, 0, none⟩) (need + more) cap) ∧ OwnS w' w.heap.size (.slice (some ⟨g, 0, none⟩) (need + more) cap) ((spreadL (nb t) need more).map toB) ∧ Below w.heap.size w w' := by
  have hge := plen_ge (need := need) (size := t.size) (by omega)
  have hle := plen_le need t.size
  have HFA : Hid (∀ s ∈ (firsts (nb t) need).map toB, s.size = plen need t.size) := fun s hs => by
    obtain ⟨p, hp, rfl⟩ := List.mem_map.1 hs
    have := firsts_all (nb t) need p hp
    rw [toB_size, this, nb_len]
  have HRE : Hid (restS ((firsts (nb t) need).map toB) need (plen need t.size) more = (spreadL (nb t) need more).map toB) := by
    show _ = _
    unfold restS spreadL
    rw [List.map_append, nb_len]
    congr 3
    rw [List.map_map]
    have : ∀ p ∈ firsts (nb t) need, (nb ∘ toB) p = p := fun p hp => nb_toB (firsts_els (nb_els t) need p hp)
    rw [List.map_congr_left this]; simp
  have HPT : Hid (t ++ toB (List.replicate (need * plen need t.size - t.size) 0) = toB (pad (nb t) need)) := pad_text t need
  have HCU : Hid (∀ k, k < need → k * plen need t.size + plen need t.size ≤ need * plen need t.size ∧ (toB (pad (nb t) need)).extract (k * plen need t.size) ((k + 1) * plen need t.size) = toB (cutL (nb t) need k)) := fun k hk => by
    refine ⟨cut_room hk, ?_⟩
    rw [toB_extract]
    unfold cutL
    rw [nb_len, Nat.add_mul, Nat.one_mul, Nat.add_sub_cancel_left]
  have HPS : Hid ((toB (pad (nb t) need)).size = need * plen need t.size) := by show _ = _; rw [toB_size, pad_len (by omega), nb_len]
  have HLG : Hid (∀ W, Calls Try.prog 47 #[.int .i64 (need : Nat), .int .i64 (t.size : Nat)] W fun e w' => e = .returned (.int .i64 (plen need t.size : Nat)) ∧ W = w') := fun W => specLong_any need t.size W (by omega) (by omega) (by omega)
  generalize hL : plen need t.size = L at *
  generalize toB (pad (nb t) need) = P at *
  have hw1 := mulW (a := need) (b := L) (by omega)
  have hLn : L ≤ 200 := by rw [← hL]; have := plen_small (need := need) (size := t.size) (by omega); omega
  have HNL : Hid (∀ k, k ≤ need → k * L ≤ need * L) := fun k hk => Nat.mul_le_mul_right _ hk
  obtain ⟨W1, hmk, hr1, hbw, hz1⟩ := Mem.make_bytes (P := Try.prog) 22 5 Join.under Join.info8 (need * L - t.size) (by omega) w
  have hcv := text_of_row (P := Try.prog) 22 9 5 Join.under Join.under8 Join.underS W1 w.heap.size (need * L - t.size) (need * L - t.size) ((List.replicate (need * L - t.size) 0).map UInt8.ofNat) [] (by simp) (by rw [← zeros_cells]; simpa using hr1)
  have e0 : ((need * L - t.size : Nat) : Int) = ((need * L : Nat) : Int) - (t.size : Int) := by omega
  rw [e0] at hmk
  have hcv' : (convert 22 9 (.slice (some ⟨w.heap.size, 0, none⟩) (need * L - t.size) (need * L - t.size))).run Try.prog W1 = .ok (.string (toB (List.replicate (need * L - t.size) 0))) W1 := hcv
  have HB1 : Hid (Below w.heap.size w W1) := hbw
  have HZ1 : Hid (W1.heap.size = w.heap.size + 1) := hz1
  generalize hZ : toB (List.replicate (need * L - t.size) 0) = Z at *
  have hZs : Z.size = need * L - t.size := by rw [← hZ, toB_size]; simp
  have hb1 : (t.size : Int) + (Z.size : Int) ≤ 1000 := by omega
  have HPT' : Hid (t ++ Z = P) := HPT.out
  have HZS : Hid (Z.size = need * L - t.size) := hZs
  generalize hM : need * L = M at *
  have HM : Hid (need * L = M) := hM
  generalize hD : M - t.size = D at *
  clear hZ hz1 hcv hr1 hbw hL HPT hM hD hZs hge e0
  go_enter Try.func35, Try.ntmps35
  go_wp2_with (first | (go_at_call 47; refine (HLG.out _).mono ?_; rintro e w' ⟨rfl, rfl⟩))
  rw [HPT'.out]
  have HOW : Hid (OwnS (W1.alloc (.cells #[] 9)) w.heap.size (.slice (some ⟨W1.heap.size, 0, none⟩) 0 0) (((List.range 0).map (cutL (nb t) need)).map toB)) := ownV_empty _ W1 _ (by rw [HZ1.out]; omega)
  have HFS : Hid (∀ k, ((List.range (k + 1)).map (cutL (nb t) need)).map toB = ((List.range k).map (cutL (nb t) need)).map toB ++ [toB (cutL (nb t) need k)]) := fun k => by rw [firsts_succ, List.map_append]; rfl
  have HFL : Hid (∀ k, (((List.range k).map (cutL (nb t) need)).map toB).length = k) := fun k => by simp
  have HFE : Hid ((firsts (nb t) need).map toB = ((List.range need).map (cutL (nb t) need)).map toB) := rfl
  have HRS : Hid (∀ vl W, Strs W vl ((firsts (nb t) need).map toB) → Calls Try.prog 60 #[vl, .int .i64 (need : Nat), .int .i64 (more : Nat)] W fun e w' => ∃ g cap, e = .returned (.slice (some ⟨g, 0, none⟩) (need + more) cap) ∧ OwnS w' W.heap.size (.slice (some ⟨g, 0, none⟩) (need + more) cap) (restS ((firsts (nb t) need).map toB) need L more) ∧ Below W.heap.size W w') := fun vl W hs => specRest_any vl _ need more L W hs (by omega) (by simp [firsts]) (by omega) (by omega) HFA.out (by omega)
  rw [HRE.out, HFE.out] at HRS
  generalize hR : (spreadL (nb t) need more).map toB = R at *
  have HR : Hid ((spreadL (nb t) need more).map toB = R) := hR
  clear hR
  have HPS' : Hid (P.size = M) := HPS.out
  clear hcv' hmk hb1 hw1
  go_loopw [9, 10] (fun v i wr => ∃ k : Nat, k ≤ need ∧ i = .int .i64 k ∧ OwnS wr w.heap.size v (((List.range k).map (cutL (nb t) need)).map toB) ∧ Below w.heap.size w wr) (fun _ i _ => need - (intOf i).toNat)
  case atStart => exact ⟨0, by omega, rfl, HOW.out, HB1.out.alloc HB1.out.size _⟩
  case round =>
    obtain ⟨k, hk, rfl, hown, hbel⟩ := hrel
    have HOWN : Hid (OwnS wr w.heap.size u9 (((List.range k).map (cutL (nb t) need)).map toB)) := hown
    have HBEL : Hid (Below w.heap.size w wr) := hbel
    have hz := hbel.size
    clear HOW
    by_cases hlt : k < need
    · obtain ⟨q1, q2⟩ := HCU.out k hlt
      have hps := HPS'.out
      have hk1 := HNL.out (k + 1) (by omega)
      have hm := HM.out
      have hmul1 := mulW (a := k) (b := L) (by omega)
      have hmul2 := mulW (a := k + 1) (b := L) (by omega)
      have e1 : (((k + 1 : Nat) : Int)) = (k : Int) + 1 := by push_cast; rfl
      rw [e1] at hmul2
      have hsl : ∀ W, (Instr.slice 9 (.string P) (some (.int .i64 ((k * L : Nat) : Int))) (some (.int .i64 (((k + 1) * L : Nat) : Int))) none).run Try.prog W = .ok (.string (toB (cutL (nb t) need k))) W := fun W => by
        rw [← q2]
        exact slice_text P (k * L) ((k + 1) * L) (by rw [Nat.add_mul]; omega) (by omega) _ _ rfl rfl W
      have HFK : Hid _ := HFS.out k
      have HFN : Hid _ := HFL.out k
      generalize toB (cutL (nb t) need k) = y at *
      generalize ((List.range k).map (cutL (nb t) need)).map toB = l at *
      generalize k * L = c1 at *
      generalize (k + 1) * L = c2 at *
      clear hown hbel hps hm e1 q2
      go_wp2_with (at_builtin; refine wp_str (by rfl) _ _ (by rfl) w.heap.size wr.heap.size u9 l y (by rfl) (by rfl) (OwnS.alloc HOWN.out _) (size_new hz _) (cell_new _ _ _) (by have := HFN.out; omega) ?_; intro g cap w1 ho1 hb1 hz1; have HO1 : Hid _ := ho1; have HB1 : Hid _ := hb1; clear ho1 hb1)
      go_roundw
      case rel => exact ⟨k + 1, by omega, by go_num, by rw [HFK.out]; exact HO1.out, ((HBEL.out.alloc HBEL.out.size _).trans HB1.out)⟩
      case measure => simp [intOf]; omega
    · obtain rfl : k = need := by omega
      have HSN : Hid (Strs wr u9 (((List.range k).map (cutL (nb t) k)).map toB)) := HOWN.out.strs
      clear hown hbel
      go_wp2_with (first | (go_at_call 60; refine (HRS.out _ _ HSN.out).mono ?_; rintro e w2 ⟨g, cap, rfl, ho, hb⟩; have HO : Hid _ := ho; have HB : Hid _ := hb; clear ho hb))
      go_ret
      exact ⟨g, cap, rfl, by rw [HR.out]; exact OwnV.below HO.out (Below.refl _ _) HBEL.out.size, bstep HBEL.out HB.out⟩

set_option maxRecDepth 100000 in
set_option maxHeartbeats 1000000 in
theorem specSpread_any (t : ByteArray) (need more : Int) (w : World) (hs : t.size ≤ 2000000) :
    Calls Try.prog 11 #[.string t, .int .i64 need, .int .i64 more] w fun e w' => ∃ g cap, e = .returned (.slice (some ⟨g, 0, none⟩) (spreadO t need more).length cap) ∧ OwnS w' w.heap.size (.slice (some ⟨g, 0, none⟩) (spreadO t need more).length cap) (spreadO t need more) ∧ Below w.heap.size w w' := by
  have HF : Hid (∀ W, Calls Try.prog 37 #[.int .i64 need, .int .i64 more, .int .i64 (t.size : Nat)] W fun e w' => e = .returned (.bool (fineB need more (t.size : Nat))) ∧ W = w') := fun W => specFine_any need more _ W
  by_cases hf : fineB need more (t.size : Nat) = true
  · have hE : spreadO t need more = (spreadL (nb t) need.toNat more.toNat).map toB := by unfold spreadO; rw [if_pos hf]
    obtain ⟨n, m, s, rfl, rfl, hss, g1, g2, g3, g4, g5⟩ := fine_parts hf
    have hss' : t.size = s := by omega
    rw [hf] at HF
    have HSP : Hid (∀ W, Calls Try.prog 35 #[.string t, .int .i64 (n : Nat), .int .i64 (m : Nat)] W fun e w' => ∃ g cap, e = .returned (.slice (some ⟨g, 0, none⟩) (n + m) cap) ∧ OwnS w' W.heap.size (.slice (some ⟨g, 0, none⟩) (n + m) cap) ((spreadL (nb t) n m).map toB) ∧ Below W.heap.size W w') := fun W => specSpreadIn_any t n m W g1 g2 g3 (by omega) (by omega)
    have hlen : ((spreadL (nb t) ((n : Nat) : Int).toNat ((m : Nat) : Int).toNat).map toB).length = n + m := by simp [spreadL_len]
    rw [hE, hlen]
    have e1 : ((n : Nat) : Int).toNat = n := by omega
    have e2 : ((m : Nat) : Int).toNat = m := by omega
    rw [e1, e2]
    have p1 : ¬ (8000 : Int) < (t.size : Int) := by omega
    clear hE hlen hss hss' e1 e2 hf
    go_enter Try.func11, Try.ntmps11
    go_wp2_with (first | (go_at_call 37; refine (HF.out _).mono ?_; rintro e w' ⟨rfl, rfl⟩) | (go_at_call 35; refine (HSP.out _).mono ?_; rintro e w2 ⟨g, cap, rfl, ho, hb⟩; have HO : Hid _ := ho; have HB : Hid _ := hb; clear ho hb))
    go_ret
    exact ⟨g, cap, rfl, HO.out, HB.out⟩
  · have hf' : fineB need more (t.size : Nat) = false := by simpa using hf
    have hE : spreadO t need more = [] := by unfold spreadO; rw [hf']; rfl
    rw [hE]
    rw [hf'] at HF
    have HOW : Hid (∀ o, o = Obj.cells #[] 9 → OwnS (w.alloc o) w.heap.size (.slice (some ⟨w.heap.size, 0, none⟩) 0 0) []) := fun o ho => by subst ho; exact ownV_empty _ w _ (Nat.le_refl _)
    clear hf hf' hE
    by_cases hb : (8000 : Int) < (t.size : Int)
    · go_enter Try.func11, Try.ntmps11
      go_wp2
      go_ret
      exact ⟨_, _, rfl, HOW.out _ rfl, (Below.refl _ _).alloc (Nat.le_refl _) _⟩
    · go_enter Try.func11, Try.ntmps11
      go_wp2_with (first | (go_at_call 37; refine (HF.out _).mono ?_; rintro e w' ⟨rfl, rfl⟩))
      go_ret
      exact ⟨_, _, rfl, HOW.out _ rfl, (Below.refl _ _).alloc (Nat.le_refl _) _⟩
end Go.Proofs.Ytkanhjafchiikaa.Gf
