/- What the program's Cut answers. -/
import Derived.Test.YtkanhjafchiikabCutFrames
import Derived.Test.YtkanhjafchiikabTextsC
import Derived.Test.YtkanhjafchiikabImplFrame
namespace Go.Proofs.Ytkanhjafchiikab.Frm
open Go.RowKit Go.Proofs.Ytkanhjafchiikab.Mem Go.Proofs.Ytkanhjafchiikab.Gf Go.Proofs.Ytkanhjafchiikab.Harn

/-- what the program tells of the group i -/
def grpO (o : Int) (body : ByteArray) (need more : Int) (i : Nat) : List ByteArray := outsTo ⟨o, (i : Nat), (groupsN body.size : Nat), need, more, ((groupT body i).size : Nat), 0, ByteArray.empty⟩ (spreadO (groupT body i) need more) (spreadO (groupT body i) need more).length
theorem grpO_len (o : Int) (body : ByteArray) (need more : Int) (i : Nat) : (grpO o body need more i).length ≤ 10 := by
  unfold grpO
  rw [outsTo_len]
  unfold spreadO
  split
  · rename_i h
    obtain ⟨n', m', s', rfl, rfl, _, _, q2, q3, _⟩ := fine_parts h
    simp [spreadL_len]; omega
  · simp
theorem grpO_no {o : Int} {body : ByteArray} {need more : Int} {i : Nat} (hi : i < groupsN body.size) (hf : fineB need more 1 = false) : grpO o body need more i = [] := by
  have h1 := groupT_size hi
  have h2 := groupZ_bd hi
  have e : spreadO (groupT body i) need more = [] := by
    unfold spreadO
    rw [fine_any (by omega) (by omega), hf]; rfl
  unfold grpO
  rw [e]; rfl
theorem grpO_yes {o : Int} {body : ByteArray} {n m i : Nat} (ho : isB o 1 1000000 = true) (hb : body.size ≤ 900) (hf : fineB (n : Nat) (m : Nat) 1 = true) (hi : i < groupsN body.size) : grpO o body (n : Nat) (m : Nat) i = framesL o body n m i := by
  have h1 := groupT_size hi
  have h2 := groupZ_bd hi
  have e : spreadO (groupT body i) (n : Nat) (m : Nat) = (spreadL (nb (groupT body i)) n m).map toB := by
    unfold spreadO
    rw [fine_any (by omega) (by omega), hf]; simp
  have hl := spreadL_len (nb (groupT body i)) n m
  unfold grpO framesL outsTo
  rw [e, List.length_map, hl]
  refine List.map_congr_left fun x hx => ?_
  have hx2 : x < n + m := by simpa using hx
  have hr := frameOf_right ho hb hf hi hx2
  have e2 : ((spreadL (nb (groupT body i)) n m).map toB).getD x ByteArray.empty = toB ((spreadL (nb (groupT body i)) n m).getD x []) := by
    rw [List.getD, List.getElem?_map, List.getD, List.getElem?_eq_getElem (by omega)]; rfl
  rw [e2]
  have e3 : (frameOf o body n m i x).out = (frameOf o body n m i x).bytes := by unfold Fr.out; rw [if_pos hr]
  exact e3
def allO (o : Int) (body : ByteArray) (need more : Int) (k : Nat) : List ByteArray := (List.range k).flatMap (grpO o body need more)
theorem allO_succ (o : Int) (body : ByteArray) (need more : Int) (k : Nat) : allO o body need more (k + 1) = allO o body need more k ++ grpO o body need more k := by
  unfold allO; rw [List.range_succ, List.flatMap_append]; simp
theorem allO_len (o : Int) (body : ByteArray) (need more : Int) (k : Nat) : (allO o body need more k).length ≤ k * 10 := by
  induction k with
  | zero => simp [allO]
  | succ k ih => rw [allO_succ, List.length_append]; have := grpO_len o body need more k; omega
theorem allO_cut {o : Int} {body : ByteArray} {need more : Int} (ho : isB o 1 1000000 = true) (hb : body.size ≤ 900) : allO o body need more (groupsN body.size) = cutO o body need more := by
  by_cases h0 : body.size = 0
  · have e1 : groupsN body.size = 0 := by rw [h0]; rfl
    have e2 : cutOk o body need more = false := by unfold cutOk; rw [h0]; simp
    unfold cutO
    rw [e2, e1]; rfl
  · by_cases hf : fineB need more 1 = true
    · obtain ⟨n', m', s', rfl, rfl, _, _⟩ := fine_parts hf
      have e2 : cutOk o body (n' : Nat) (m' : Nat) = true := by unfold cutOk; rw [hf, ho, decide_eq_true (show 1 ≤ body.size ∧ body.size ≤ 900 by omega)]; rfl
      unfold cutO
      rw [if_pos e2]
      simp only [Int.toNat_natCast]
      unfold allO cutTo
      rw [List.flatMap_def, List.flatMap_def]
      congr 1
      exact List.map_congr_left fun i hi => grpO_yes ho hb hf (by simpa using hi)
    · have hf' : fineB need more 1 = false := by simpa using hf
      have e2 : cutOk o body need more = false := by unfold cutOk; rw [hf']; simp
      unfold cutO
      rw [e2]
      unfold allO
      simp only [Bool.false_eq_true, if_false]
      rw [List.flatMap_eq_nil_iff]
      exact fun i hi => grpO_no (by simpa using hi) hf'
theorem cutO_no {o : Int} {body : ByteArray} {need more : Int} (h : isB o 1 1000000 = false ∨ 900 < body.size) : cutO o body need more = [] := by
  have e2 : cutOk o body need more = false := by
    unfold cutOk
    rcases h with h | h
    · rw [h]; simp
    · rw [decide_eq_false (show ¬ (1 ≤ body.size ∧ body.size ≤ 900) by omega)]; simp
  unfold cutO
  rw [e2]; rfl

set_option maxRecDepth 100000 in
set_option maxHeartbeats 2000000 in
theorem implCut_any (o : Int) (body : ByteArray) (need more : Int) (w : World) :
    Calls Try.prog 5 #[.int .i64 o, .string body, .int .i64 need, .int .i64 more] w fun e w' => ∃ u, e = .returned u ∧ OwnS w' w.heap.size u (cutO o body need more) ∧ Below w.heap.size w w' := by
  by_cases ho : isB o 1 1000000 = true
  · have HOB : Hid _ := fun W => object_call ho W
    by_cases hb : body.size ≤ 900
    · have HC : Hid (allO o body need more (groupsN body.size) = cutO o body need more) := allO_cut ho hb
      rw [← HC.out]
      have HA : Hid (∀ k, allO o body need more (k + 1) = allO o body need more k ++ grpO o body need more k) := allO_succ _ _ _ _
      have HAL : Hid (∀ k, (allO o body need more k).length ≤ k * 10) := allO_len _ _ _ _
      have HGL : Hid (∀ k, (grpO o body need more k).length ≤ 10) := grpO_len _ _ _ _
      have HGO : Hid (∀ W, Calls Try.prog 13 #[.string body] W fun e w' => ∃ u B, e = .returned u ∧ OwnV 31 w' W.heap.size u (groupV B body.size (groupsN body.size)) ∧ (∀ i (h : i < body.size), w'.cell? ⟨B, i, none⟩ = some (.int .u8 ((body[i]).toNat : Nat))) ∧ Below W.heap.size W w') := fun W => groupsOf_any body W hb
      have HGF : Hid (∀ i vt W, i < groupsN body.size → NumsK .u8 W vt (nb (groupT body i)) → Calls Try.prog 14 #[.agg #[.int .i64 o, .int .i64 (i : Nat), .int .i64 (groupsN body.size : Nat), .int .i64 need, .int .i64 more, .int .i64 0, .int .i64 0, .string { data := #[] }], vt] W fun e w' => ∃ u, e = .returned u ∧ OwnS w' W.heap.size u (grpO o body need more i) ∧ Below W.heap.size W w') := fun i vt W hi hn => by
        have h1 := groupT_size hi
        have h2 := groupZ_bd hi
        exact groupFrames_any o (i : Nat) (groupsN body.size : Nat) need more 0 0 { data := #[] } vt (groupT body i) W hn (by omega) (by omega)
      have HG9 : Hid (groupsN body.size ≤ 9) := groups_le hb
      have HNK : Hid (∀ i B W, i < groupsN body.size → (∀ j (h : j < body.size), W.cell? ⟨B, j, none⟩ = some (.int .u8 ((body[j]).toNat : Nat))) → NumsK .u8 W (.slice (some ⟨B, 100 * i, none⟩) (groupZ body.size i) (groupZ body.size i)) (nb (groupT body i))) := fun i B W hi hc => by
        have h1 := groupT_size hi
        have h2 := groupZ_bd hi
        refine ⟨some ⟨B, 100 * i, none⟩, groupZ body.size i, by rw [nb_len, h1], fun j hj => ⟨B, 100 * i, rfl, ?_⟩⟩
        rw [nb_len] at hj
        rw [nb_at _ _ hj, groupT_at hi j hj, hc _ (by omega)]
      have HVL : Hid (∀ B, (groupV B body.size (groupsN body.size)).length = groupsN body.size) := fun B => groupV_len _ _ _
      have HVA : Hid (∀ B i, i < groupsN body.size → (groupV B body.size (groupsN body.size))[i]? = some (.slice (some ⟨B, 100 * i, none⟩) (groupZ body.size i) (groupZ body.size i))) := fun B i hi => by simp [groupV, hi]
      have p1 : ¬ (900 : Int) < (body.size : Int) := by omega
      obtain ⟨G, hG⟩ : ∃ G, G = groupsN body.size := ⟨_, rfl⟩
      rw [← hG] at HGO HGF HG9 HNK HVL HVA ⊢
      generalize hZ : groupZ body.size = Z at *
      generalize hAO : allO o body need more = AO at *
      generalize hGP : grpO o body need more = GP at *
      have HA0 : Hid (AO 0 = []) := by
        have h := HAL.out 0
        exact List.length_eq_zero_iff.1 (by omega)
      clear ho hb HC hG hZ hAO hGP
      go_enter Try.func5, Try.ntmps5
      go_wp2_with (go_at_call 12; refine (HOB.out _).mono ?_; rintro e w' ⟨rfl, rfl⟩)
      refine (HGO.out _).mono ?_
      rintro e w1 ⟨u, B, rfl, hown, hcel, hb1⟩
      obtain ⟨a1, c1, rfl, hle, hc1⟩ := OwnV.cells hown
      have HCG : Hid (∀ i (_ : i < G), ∃ g1, a1 = some ⟨g1, 0, none⟩ ∧ w1.cell? ⟨g1, i, none⟩ = some (.slice (some ⟨B, 100 * i, none⟩) (Z i) (Z i))) := fun i hi => by
        obtain ⟨g1, e, c, _⟩ := hc1 i (by rw [HVL.out]; exact hi)
        exact ⟨g1, e, c.trans (HVA.out B i hi)⟩
      have HCB : Hid (∀ j (h : j < body.size), w1.cell? ⟨B, j, none⟩ = some (.int .u8 ((body[j]).toNat : Nat))) := hcel
      have HB1 : Hid (Below w.heap.size w w1) := hb1
      have hzw := hb1.size
      rw [HVL.out]
      have hg9 := HG9.out
      clear hown hcel hb1 hc1 hle HGO HVL HVA
      go_wp2
      go_loopw [9, 26] (fun fv i wr => ∃ k : Nat, k ≤ G ∧ i = .int .i64 k ∧ OwnS wr w1.heap.size fv (AO k) ∧ Below w1.heap.size w1 wr) (fun _ i _ => G - (intOf i).toNat)
      case atStart => exact ⟨0, by omega, rfl, by rw [HA0.out]; exact World.ownsRow_nil _ _ _ _, Below.refl _ _⟩
      case round =>
        obtain ⟨k, hk, rfl, hown, hbel⟩ := hrel
        have HOWN : Hid (OwnS wr w1.heap.size u9 (AO k)) := hown
        have HBEL : Hid (Below w1.heap.size w1 wr) := hbel
        have hz := hbel.size
        clear hown
        by_cases hlt : k < G
        · obtain ⟨g1, rfl, d1⟩ := HCG.out k hlt
          have c2 : wr.cell? ⟨g1, k, none⟩ = _ := Sha.bel_cell hbel d1
          have HCK : Hid (∀ j (h : j < body.size), wr.cell? ⟨B, j, none⟩ = some (.int .u8 ((body[j]).toNat : Nat))) := fun j h => Sha.bel_cell hbel (HCB.out j h)
          have p2 : (k : Int) < (G : Int) := by omega
          have HAK : Hid _ := HA.out k
          have HL1 : Hid ((AO k).length ≤ 100) := by have := HAL.out k; show _ ≤ _; omega
          have HL2 : Hid ((GP k).length ≤ 10) := HGL.out k
          have HGK : Hid (∀ W, Below wr.heap.size wr W → Calls Try.prog 14 #[.agg #[.int .i64 o, .int .i64 (k : Nat), .int .i64 (G : Nat), .int .i64 need, .int .i64 more, .int .i64 0, .int .i64 0, .string { data := #[] }], .slice (some ⟨B, 100 * k, none⟩) (Z k) (Z k)] W fun e w' => ∃ u, e = .returned u ∧ OwnS w' W.heap.size u (GP k) ∧ Below W.heap.size W w') := fun W hW => HGF.out k _ W hlt (HNK.out k B W hlt (fun j h => Sha.bel_cell hW (HCK.out j h)))
          generalize AO k = ol at *
          generalize GP k = gl at *
          clear hbel d1
          go_wp2_with fail
          refine (HGK.out _ (bself' _)).mono ?_
          rintro e w3 ⟨uf, rfl, hof, hb3⟩
          have HB3 : Hid (Below w1.heap.size w1 w3) := bstep (HBEL.out.alloc hz _) hb3
          have HO3 : Hid (OwnS w3 w1.heap.size u9 ol) := OwnS.below (OwnS.alloc HOWN.out _) hb3 (Nat.le_refl _)
          have HF3 : Hid (Strs w3 uf gl) := OwnS.strs hof
          have hz3 := HB3.out.size
          clear hof hb3 c2
          go_wp2_with (at_builtin; refine wp_strs (by rfl) _ _ (by rfl) w1.heap.size u9 uf ol gl (by rfl) (by rfl) HO3.out HF3.out hz3 (by have := HL1.out; have := HL2.out; omega) ?_; intro v4 w4 ho4 hb4 hz4; have HO4 := hidV ho4; have HB4 := hidV (HB3.out.trans hb4); clear ho4 hb4 hz4)
          exact ⟨⟨k + 1, by omega, by go_num, by rw [HAK.out]; exact HO4.out, HB4.out⟩, by simp [intOf]; omega⟩
        · obtain rfl : k = G := by omega
          clear hbel
          go_wp2
          go_ret
          exact ⟨_, rfl, OwnV.below HOWN.out (Below.refl _ _) hzw, bstep HB1.out HBEL.out⟩
    · have e : cutO o body need more = [] := cutO_no (.inr (by omega))
      rw [e]
      have p1 : (900 : Int) < (body.size : Int) := by omega
      clear ho hb e
      go_enter Try.func5, Try.ntmps5
      go_wp2_with (go_at_call 12; refine (HOB.out _).mono ?_; rintro e w' ⟨rfl, rfl⟩)
      go_ret
      exact ⟨_, rfl, World.ownsRow_nil _ _ _ _, Below.refl _ _⟩
  · have ho' : isB o 1 1000000 = false := by simpa using ho
    have HOB : Hid _ := fun W => object_call ho' W
    have e : cutO o body need more = [] := cutO_no (.inl ho')
    rw [e]
    clear ho ho' e
    go_enter Try.func5, Try.ntmps5
    go_wp2_with (go_at_call 12; refine (HOB.out _).mono ?_; rintro e w' ⟨rfl, rfl⟩)
    go_ret
    exact ⟨_, rfl, World.ownsRow_nil _ _ _ _, Below.refl _ _⟩
end Go.Proofs.Ytkanhjafchiikab.Frm
