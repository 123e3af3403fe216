/- The program's look along a side of an area. -/
import Derived.Test.YtkigmpeanllimaaGreatDoorTextsE
import Derived.Test.YtkigmpeanllimaaGreatDoorTextsC
import Derived.Test.YtkigmpeanllimaaGreatDoorImplRead
import Derived.Scope
namespace Go.Proofs.YtkigmpeanllimaaGreatDoor.Disk
open Go.RowKit Go.Proofs.YtkigmpeanllimaaGreatDoor.Mem Go.Proofs.YtkigmpeanllimaaGreatDoor.Harn Go.Proofs.YtkigmpeanllimaaGreatDoor.DiskP Go.Proofs.YtkigmpeanllimaaGreatDoor.Sent

theorem wp_app_byte {w : World} {ops : Array Oper} {rest : List Oper} {o : Oper} {a : Act} {Q : Exit → Act → World → Prop} (hgd : o.guard = none) (sl x : Operand)
    (ho : o.op = .call { callee := .builtin .append, args := #[sl, x], argTypes := #[22, 22] }) (base b : Nat) (v : Value) (l : List UInt8) (c : UInt8) (hs : a.eval sl = v) (hx : a.eval x = .slice (some ⟨b, 0, none⟩) 1 1)
    (hown : OwnsB w base 5 v l) (hc : w.cell? ⟨b, 0, none⟩ = some (.int .u8 (c.toNat : Nat))) (hn : l.length + 1 ≤ 1000000) (hbase : base ≤ w.heap.size)
    (h : ∀ v' w', OwnsB w' base 5 v' (l ++ [c]) → v' ≠ .slice none 0 0 → Below base w w' → w.heap.size ≤ w'.heap.size → wpList Tryz.prog ops Q rest (a.put o.dst v') w') : wpList Tryz.prog ops Q (o :: rest) a w := by
  obtain ⟨i, hi, hz0, hz1, hz2⟩ := info_parts infoB
  refine wpList_append_own w hgd sl x 22 ho base 5 i (.int .u8 0) 1 1 underB hi hz0 hz1 hz2 rfl (by decide) v l.length (Lib.byteCells l) hs hown ⟨b, 0, none⟩ 1 1 [.int .u8 (c.toNat : Nat)] hx rfl ?_ ?_ (by unfold maxLen; omega) (by omega) hbase ?_
  · intro j u hj
    match j, hj with
    | 0, hj => simp at hj; subst hj; simpa [Addr.add] using hc
  · intro u hu; simp at hu; subst hu; rfl
  · intro v' w' h1 h2 h3
    refine h v' w' ?_ (fun e => absurd (h3.1 e).2 (by decide)) ?_ h2.size
    · unfold OwnsB
      have e1 : (l ++ [c]).length = l.length + 1 := by simp
      have e2 : Lib.byteCells (l ++ [c]) = Lib.byteCells l ++ [.int .u8 (c.toNat : Nat)] := by simp [Lib.byteCells]
      rw [e1, e2]
      exact h1
    · exact (Below.refl base w).grown h2 hbase (fun k hk => (World.ownsRow.lt hown k hk).1)

set_option maxRecDepth 100000 in
set_option maxHeartbeats 1000000 in
theorem sideStart_any (vs vp : Value) (ls : List ByteArray) (s : Nat) (w : World) (hs : Strs w vs ls) (h0 : 1 ≤ ls.length) (h64 : ls.length ≤ 64) (h1 : s ≤ 1) :
    Calls Tryz.prog 31 #[.agg #[vs, vp], .int .i64 (s : Int)] w fun e w' => e = .returned (.int .i64 ((firstN ls s : Nat) : Int)) ∧ Below w.heap.size w w' := by
  have h31 := halfN_le h64
  have HB0 : Hid (Below w.heap.size w (w.alloc (.cells #[vs, vp] 26))) := bself _
  have K : Hid (Calls Tryz.prog 47 #[.agg #[vs, vp]] (w.alloc (.cells #[vs, vp] 26)) fun e w' => e = .returned (.int .i64 (halfN ls : Nat)) ∧ Below (w.alloc (.cells #[vs, vp] 26)).heap.size (w.alloc (.cells #[vs, vp] 26)) w') := implSide_any vs vp ls _ (hs.below HB0.out) h0 (by omega)
  clear hs
  unfold firstN
  generalize halfN ls = hn at *
  have hc : s = 0 ∨ s = 1 := by omega
  rcases hc with rfl | rfl
  all_goals
    go_enter Tryz.func31, Tryz.ntmps31
    go_wp2_with (go_at_call 47; refine K.out.mono ?_; rintro e w1 ⟨rfl, hb1⟩; have HB1 : Hid _ := hb1; clear hb1)
    go_ret
    exact ⟨by simp, bT HB0.out HB1.out⟩

theorem textSectors_any (n : Nat) (w : World) (hn : n ≤ 1000000) : Calls Tryz.prog 75 #[.int .i64 (n : Int)] w fun e w' => e = .returned (.int .i64 (((n + 63) / 64 : Nat) : Int)) ∧ w = w' := by
  have hq : ((n : Int) + 64 - 1).tdiv 64 = (((n + 63) / 64 : Nat) : Int) := by
    rw [Int.tdiv_eq_ediv_of_nonneg (by omega)]
    omega
  go_enter Tryz.func75, Tryz.ntmps75
  go_wp2
  go_ret
  exact ⟨by simp, rfl⟩

/-- The worlds of the look along a side. -/
structure SideSt (w W : World) (B gs gm : Nat) (ls : List ByteArray) (lp : List (Int × ByteArray)) (g s n : Int) : Prop where
  b : Below w.heap.size w W
  st : StrsAt W gs 0 ls
  mp : HasMap W gm lp.length (lastOf lp)
  hx : BoxH W (w.heap.size + 1) g s n
  z1 : gs < B
  z2 : gm < B
  z3 : w.heap.size + 1 < B
  z4 : B ≤ W.heap.size
theorem SideSt.below {w W W' : World} {B gs gm : Nat} {ls : List ByteArray} {lp : List (Int × ByteArray)} {g s n : Int} (h : SideSt w W B gs gm ls lp g s n) (hb : Below B W W') (hz : W.heap.size ≤ W'.heap.size) : SideSt w W' B gs gm ls lp g s n := by
  obtain ⟨b, st, mp, hx, z1, z2, z3, z4⟩ := h
  refine ⟨b.trans (hb.mono (by omega)), fun j hj => ?_, mp.kept (hb.block gm z2), BoxH.below hx hb z3, z1, z2, z3, by omega⟩
  obtain ⟨e1, e2⟩ := st j hj
  exact ⟨(hb.cell z1).trans e1, (hb.frozen z1).trans e2⟩
/-- The text that is told of a side, and the error. -/
def sideT : Option ByteArray → ByteArray
  | some t => t
  | none => ByteArray.empty
def sideE : Option ByteArray → Option Nat
  | some _ => none
  | none => some 3
theorem take_app {t : ByteArray} {l : List UInt8} {c : Nat} : (⟨(l ++ t.data.toList.take c).toArray⟩ : ByteArray) = (⟨l.toArray⟩ : ByteArray) ++ t.extract 0 c := by
  refine Unseal.ba_ext ?_
  rw [Crc.data_app]
  simp

set_option maxRecDepth 100000 in
set_option maxHeartbeats 8000000 in
theorem sideText_any (A : Nat → Addr) (vs vp : Value) (ls : List ByteArray) (lp : List (Int × ByteArray)) (g : Int) (s n : Nat) (w : World) (hs : Strs w vs ls) (hp : Pends w vp lp) (hr : rightB ls lp = true) (h1 : s ≤ 1) (hn : n ≤ 64 * halfN ls) (hS : SentsLaid w A sentL) :
    Calls Tryz.prog 58 #[.agg #[vs, vp], headV g s n] w fun e w' => e = .returned (.tuple #[.string (sideT (sideK (readD ls lp) (halfN ls) (firstN ls s) n)), errV A (sideE (sideK (readD ls lp) (halfN ls) (firstN ls s) n))]) ∧ Below w.heap.size w w' := by
  obtain ⟨r1, r2, r3, r4, r5, r6, r7⟩ := right_pends hr
  have hl1 := ((right_iff ls lp).1 hr).1
  have hl64 := ((right_iff ls lp).1 hr).2.1
  have h31 := halfN_le hl64
  have HF : Hid (∀ k, k < halfN ls → firstN ls s + k < ls.length) := fun k hk => by
    have e2 : 1 + halfN ls + halfN ls ≤ ls.length := by unfold halfN; omega
    unfold firstN
    rcases (show s = 0 ∨ s = 1 by omega) with rfl | rfl <;> omega
  have R1 : Hid (∀ y ∈ lp, 0 ≤ y.1 ∧ y.1 < 64) := r1
  have R2 : Hid (∀ z y, lastOf lp z = some y → y.2.size ≤ 2000000) := fun z y e => (r2 y (lastOf_mem e).1).2
  have R3 : Hid (∀ t ∈ ls, t.size ≤ 2000000) := r3
  have RS : Hid (∀ k, k < ls.length → (readD ls lp k).size ≤ 64) := fun k hk => readD_size hr k hk
  have hmf : ∀ (fn : Fn) (first cap : Array Value) (w : World), (Instr.makeFunc fn first cap).run Tryz.prog w = .ok (.func fn first cap) w := fun _ _ _ _ => rfl
  obtain ⟨W0, hW0⟩ : ∃ W0, W0 = (w.alloc (.cells #[vs, vp] 26)).alloc (.cells #[.int .i64 g, .int .i64 (s : Int), .int .i64 (n : Int)] 49) := ⟨_, rfl⟩
  have HB0 : Hid (Below w.heap.size w W0) := by rw [hW0]; exact bA (bself _) _
  have HZ : Hid (W0.heap.size = w.heap.size + 2) := by rw [hW0]; simp [Hid]
  have HX : Hid (Box2 W0 w.heap.size vs vp) := by rw [hW0]; exact Sha.row_alloc (Sha.row_new w [vs, vp] 26) _
  have HH : Hid (BoxH W0 (w.heap.size + 1) g s n) := by rw [hW0]; exact Sha.row_new_at (w.alloc _) [.int .i64 g, .int .i64 (s : Int), .int .i64 (n : Int)] 49 _ (by simp)
  have HS : Hid (Strs W0 vs ls) := hs.below HB0.out
  have HP : Hid (Pends W0 vp lp) := hp.below HB0.out
  have KE : Hid (∀ W, Below w.heap.size w W → W.cell? ⟨3, 0, none⟩ = some (errV A (some 3))) := fun W hb => (hb.cell (World.block_lt_of_cell? w _ (hS.v 3 (by simp [sentL])))).trans (hS.v 3 (by simp [sentL]))
  have HRel : Hid (SideRel (readD ls lp) (sideK (readD ls lp) (halfN ls) (firstN ls s) n) (halfN ls) (firstN ls s) n ByteArray.empty) := side_rel0 _ _ _ _
  have KST : Hid (∀ W, Below W0.heap.size W0 W → Calls Tryz.prog 31 #[.agg #[vs, vp], .int .i64 (s : Int)] W fun e w' => e = .returned (.int .i64 ((firstN ls s : Nat) : Int)) ∧ Below W.heap.size W w') := fun W hb => sideStart_any vs vp ls s W (HS.out.below hb) hl1 hl64 h1
  have hfn : firstN ls s ≤ 64 := by
    unfold firstN
    rcases (show s = 0 ∨ s = 1 by omega) with rfl | rfl <;> omega
  have hz0 := HZ.out
  clear hs hp hr hS r1 r2 r3 r4 r7
  generalize sideK (readD ls lp) (halfN ls) (firstN ls s) n = R at *
  generalize firstN ls s = fi at *
  generalize halfN ls = hf at *
  obtain ⟨x0, x1, _⟩ := Box2.cells HX.out
  obtain ⟨y0, y1, y2, _⟩ := BoxH.cells HH.out
  go_enter Tryz.func58, Tryz.ntmps58
  go_wp2_with fail
  rw [← hW0]
  clear hW0 x0 x1 y0 y1 y2
  refine wp_scope_straight ?_
  obtain ⟨x0, x1, _⟩ := Box2.cells HX.out
  go_wp2_with fail
  refine (workOn_any vs vp ls lp _ HS.out HP.out (by omega) (by omega) R3.out R1.out).mono ?_
  rintro e u ⟨gs, gm, rfl, a1, a2, a3, a4, a5, a6, a7, hb⟩
  have hzu := hb.size
  have HA1 : Hid _ := a1
  have HA2 : Hid _ := a2
  have HX1 : Hid (Box2 u w.heap.size vs vp) := Box2.below HX.out hb (by omega)
  have HH1 : Hid (BoxH u (w.heap.size + 1) g s n) := BoxH.below HH.out hb (by omega)
  have HB1 : Hid (Below W0.heap.size W0 u) := hb
  clear a1 a2 hb x0 x1
  obtain ⟨x0, x1, _⟩ := Box2.cells HX1.out
  obtain ⟨y0, y1, y2, _⟩ := BoxH.cells HH1.out
  go_wp2_with fail
  refine (KST.out _ HB1.out).mono ?_
  rintro e v ⟨rfl, hb⟩
  have hzv := hb.size
  have HST : Hid (SideSt w v v.heap.size gs gm ls lp g s n) := ⟨bT (bT HB0.out HB1.out) hb, StrsAt.below HA1.out hb, HasMap.below HA2.out hb, BoxH.below HH1.out hb (by omega), by omega, by omega, by omega, Nat.le_refl _⟩
  clear hb x0 x1 y0 y1 y2 HX1 HH1 HX HH HS HP HA1 HA2
  obtain ⟨y0, y1, y2, _⟩ := BoxH.cells HST.out.hx
  obtain ⟨i0, hi, hi0, hi1, hi2⟩ := info_parts infoB
  go_wp2_with (at_make; refine wpList_make_own _ (by rfl) _ _ 22 (by rfl) v.heap.size 5 i0 (.int .u8 0) 1 underB hi hi0 hi1 _ _ _ n (by rfl) (by rfl) (by rfl) (by rw [hi2]; omega) (by unfold maxLen; omega) (Nat.le_refl _) ?_; intro w1 hown1 hgrow1)
  have HS1 : Hid (SideSt w w1 v.heap.size gs gm ls lp g s n) := SideSt.below HST.out ((Below.refl _ _).grown hgrow1 (Nat.le_refl _) (fun k hk => by cases hk)) hgrow1.size
  have HO1 : Hid (OwnsB w1 v.heap.size 5 (.slice (some ⟨v.heap.size, 0, none⟩) 0 n) []) := hown1
  clear y0 y1 y2 HST hown1 hgrow1
  refine wp_label ?_
  obtain ⟨y0, y1, y2, _⟩ := BoxH.cells HS1.out.hx
  obtain ⟨T, hT⟩ : ∃ T, (n + 63) / 64 = T := ⟨_, rfl⟩
  have KT : Hid (∀ W, Calls Tryz.prog 75 #[.int .i64 (n : Int)] W fun e w' => e = .returned (.int .i64 (T : Int)) ∧ W = w') := fun W => by have h := textSectors_any n W (by omega); rw [hT] at h; exact h
  go_wp2_with (go_at_call 75; refine (KT.out _).mono ?_; rintro e w2 ⟨rfl, rfl⟩)
  generalize v.heap.size = B at *
  clear y0 y1 y2
  go_loopw [8, 28] (fun fv i W => ∃ (k : Nat) (l : List UInt8), i = .int .i64 k ∧ k ≤ T ∧ Hid (fv ≠ .slice none 0 0) ∧ Hid (OwnsB W B 5 fv l) ∧ Hid (l.length = min (64 * k) n) ∧ Hid (SideRel (readD ls lp) R (hf - k) (fi + k) (n - l.length) ⟨l.toArray⟩) ∧ Hid (SideSt w W B gs gm ls lp g s n)) (fun _ i _ => T - (intOf i).toNat)
  case atStart => exact ⟨0, [], rfl, by omega, (by show _ ≠ _; simp), HO1.out, (by show _ = _; simp), HRel.out, HS1.out⟩
  case round =>
    obtain ⟨k, l, rfl, hk, HNV, HOW, HLL, HRL, HSS⟩ := hrel
    clear HO1 HS1 HRel
    obtain ⟨y0, y1, y2, _⟩ := BoxH.cells HSS.out.hx
    by_cases hlt : k < T
    · have hlt2 : (k : Int) < (T : Int) := by omega
      have hkn : 64 * k < n := by omega
      have HL2 : Hid (l.length = 64 * k) := by have := HLL.out; unfold Hid; omega
      have hkh : k < hf := by omega
      have KSE : Hid (Calls Tryz.prog 71 #[.agg #[.slice (some ⟨gs, 0, none⟩) ls.length ls.length, .map (some gm)], .int .i64 ((fi : Int) + (k : Int))] wr fun e w' => e = .returned (.string (readD ls lp (fi + k))) ∧ Below wr.heap.size wr w') := by
        have h := sector_any (.slice (some ⟨gs, 0, none⟩) ls.length ls.length) gm lp.length (fi + k) ls (lastOf lp) wr (StrsAt.strs HSS.out.st _) HSS.out.mp (HF.out k hkh) hl64 R2.out
        rw [Int.natCast_add] at h
        exact h
      have htz := RS.out (fi + k) (HF.out k hkh)
      have HRL2 : Hid (SideRel (readD ls lp) R (hf - (k + 1) + 1) (fi + k) (n - 64 * k) ⟨l.toArray⟩) := by have h := HRL.out; rw [HL2.out, show hf - k = hf - (k + 1) + 1 by omega] at h; exact h
      obtain ⟨t, ht⟩ : ∃ t, readD ls lp (fi + k) = t := ⟨_, rfl⟩
      rw [ht] at KSE htz
      obtain ⟨c, hc⟩ : ∃ c, min 64 (n - 64 * k) = c := ⟨_, rfl⟩
      have HFI : Hid ((c : Int) = min ((n : Int) - (k : Int) * 64) 64) := by unfold Hid; omega
      have hmn : ∀ W, (Builtin.min_ #[2, 2] 2 #[.int .i64 ((n : Int) - (k : Int) * 64), .int .i64 64]).run Tryz.prog W = .ok (.int .i64 (c : Int)) W := fun W => by
        have h := HFI.out
        by_cases hh : (n : Int) - (k : Int) * 64 ≤ 64
        · have e : (c : Int) = (n : Int) - (k : Int) * 64 := by omega
          rw [e]
          simp [Builtin.min_, Builtin.min2]
          try omega
        · have e : (c : Int) = 64 := by omega
          rw [e]
          simp [Builtin.min_, Builtin.min2]
          try omega
      have hc1 : c ≤ 64 := by omega
      have hc2 : 64 * k + c ≤ n := by omega
      go_wp2_with fail
      refine KSE.out.mono ?_
      rintro e w3 ⟨rfl, hb⟩
      have HS3 : Hid (SideSt w w3 B gs gm ls lp g s n) := SideSt.below HSS.out (hb.mono HSS.out.z4) hb.size
      have HO3 : Hid (OwnsB w3 B 5 u8 l) := ownB_below HOW.out hb
      clear hb y0 y1 y2 HSS HOW KSE HRL
      obtain ⟨y0, y1, y2, _⟩ := BoxH.cells HS3.out.hx
      go_wp2_with fail
      clear y0 y1 y2
      have hS3 := HS3
      go_loopw [8, 42] (fun fv j W => ∃ (m : Nat), j = .int .i64 m ∧ m ≤ c ∧ m ≤ t.size ∧ Hid (fv ≠ .slice none 0 0) ∧ Hid (OwnsB W B 5 fv (l ++ t.data.toList.take m)) ∧ Hid (SideSt w W B gs gm ls lp g s n)) (fun _ j _ => c - (intOf j).toNat)
      case atStart => exact ⟨0, rfl, by omega, by omega, HNV.out, (by show OwnsB _ _ _ _ _; simpa using HO3.out), HS3.out⟩
      case round =>
        obtain ⟨m, rfl, hm, hmt, HNW, HOM, HSM⟩ := hrel
        clear HNV HO3 HS3 hS3
        obtain ⟨gq, cq, rfl, hq1, hq2⟩ := ownB_shape HOM.out HNW.out
        have htl : t.data.toList.length = t.size := by simp
        have hll : (l ++ t.data.toList.take m).length = 64 * k + m := by
          rw [List.length_append, HL2.out, List.length_take]
          omega
        by_cases hmc : m < c
        · have hmc2 : (m : Int) < (c : Int) := by omega
          by_cases hme : m = t.size
          · have HRN : Hid (R = none) := side_relN HRL2.out (by omega) (by rw [ht]; omega)
            have hd : decide ((m : Int) = (t.size : Int)) = true := by simp [hme]
            have hlz : (((l ++ t.data.toList.take m).length : Nat) : Int) < (n : Int) := by rw [hll]; omega
            obtain ⟨y0, y1, y2, _⟩ := BoxH.cells HSM.out.hx
            obtain ⟨ev, HEV⟩ : ∃ ev, Hid (errV A (some 3) = ev) := ⟨_, rfl⟩
            have kQ := KE.out wr HSM.out.b
            rw [HEV.out] at kQ
            generalize (l ++ t.data.toList.take m).length = q at *
            go_wp2_with fail
            go_region_held3 (fun W => W.cell? ⟨3, 0, none⟩ = some ev) (exact kQ) (fail)
            go_wp2_with fail
            unfold Exit.noGoto
            dsimp only
            refine bodyPost_ret (v := .tuple #[.string ByteArray.empty, ev]) (by simp [results, Tryz.results58, go_sem]; rfl) rfl ⟨?_, ?_⟩
            · rw [HRN.out, ← HEV.out]; rfl
            · exact bD HSM.out.b
          · have hmlt : m < t.size := by omega
            have hd : decide ((m : Int) = (t.size : Int)) = false := by simp; omega
            have hml2 : (m : Int) < (t.size : Int) := by omega
            obtain ⟨cc, hcc⟩ : ∃ cc, t[m] = cc := ⟨_, rfl⟩
            have HTK : Hid (l ++ t.data.toList.take (m + 1) = l ++ t.data.toList.take m ++ [cc]) := by
              unfold Hid
              rw [List.append_assoc, List.take_succ_eq_append_getElem (by omega), ← hcc]
              rfl
            have hq3 : B ≤ wr.heap.size := HSM.out.z4
            generalize l ++ t.data.toList.take m = lm at *
            go_wp2_with (at_builtin; refine wp_app_byte (by rfl) _ _ (by rfl) B wr.heap.size _ lm cc (by rfl) (by rfl) (ownB_below HOM.out (bself _)) (by simp [← hcc]) (by omega) (by simp; omega) ?_; intro v' w4 ho4 hn4 hb4 hz4; simp at hz4; have HO4 : Hid _ := ho4; have HN4 : Hid _ := hn4; have HS4 : Hid (SideSt w w4 B gs gm ls lp g s n) := SideSt.below HSM.out (((Below.refl _ _).alloc hq3 _).trans hb4) (by omega); clear ho4 hn4 hb4)
            go_roundw
            case rel => exact ⟨m + 1, by go_num, by omega, by omega, HN4.out, (by show OwnsB _ _ _ _ _; rw [HTK.out]; exact HO4.out), HS4.out⟩
            case measure => simp [intOf]; omega
        · have e : m = c := by omega
          have hmc2 : ¬ (m : Int) < (c : Int) := by omega
          have HR3 : Hid (SideRel (readD ls lp) R (hf - (k + 1)) (fi + (k + 1)) (n - (l ++ t.data.toList.take m).length) ⟨(l ++ t.data.toList.take m).toArray⟩) := by
            have h := side_rel1 HRL2.out (by omega) (by rw [ht]; omega)
            unfold Hid
            rw [take_app, hll, e, ← hc, ← ht]
            have e2 : n - (64 * k + min 64 (n - 64 * k)) = n - 64 * k - min 64 (n - 64 * k) := by omega
            rw [e2]
            exact h
          have HL3 : Hid ((l ++ t.data.toList.take m).length = min (64 * (k + 1)) n) := by unfold Hid; rw [hll]; omega
          generalize l ++ t.data.toList.take m = lm at *
          go_wp2_with fail
          go_roundw
          case rel => exact ⟨k + 1, lm, by go_num, by omega, HNW.out, HOM.out, HL3.out, HR3.out, HSM.out⟩
          case measure => simp [intOf]; omega
    · have e : k = T := by omega
      have HL2 : Hid (l.length = n) := by have := HLL.out; unfold Hid; omega
      have HRS : Hid (R = some ⟨l.toArray⟩) := by have h := HRL.out; rw [HL2.out, Nat.sub_self] at h; exact side_relS h
      obtain ⟨gq, cq, rfl, hq1, hq2⟩ := ownB_shape HOW.out HNV.out
      have hcv := ownB_text HOW.out HNV.out
      rw [HL2.out] at hcv ⊢
      have hkT : ¬ (k : Int) < (T : Int) := by omega
      go_wp2_with fail
      refine bodyPost_ret (v := .tuple #[.string ⟨l.toArray⟩, .nilIface]) (by simp [results, Tryz.results58, go_sem]) rfl ⟨by rw [HRS.out]; rfl, HSS.out.b⟩
end Go.Proofs.YtkigmpeanllimaaGreatDoor.Disk
