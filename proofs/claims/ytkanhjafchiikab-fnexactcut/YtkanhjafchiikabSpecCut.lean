/- What the model's Cut answers. -/
import Derived.Test.YtkanhjafchiikabTextsE
import Derived.Test.YtkanhjafchiikabSpecFB
import Derived.Test.YtkanhjafchiikabSpecSpread2
import Derived.Test.YtkanhjafchiikabTextsC
namespace Go.Proofs.Ytkanhjafchiikab.Frm
open Go.RowKit Go.Proofs.Ytkanhjafchiikab.Mem Go.Proofs.Ytkanhjafchiikab.Gf Go.Proofs.Ytkanhjafchiikab.Harn

theorem shutC {p : Prop} (h : p) : Hid p := h
theorem l01Min_any (a b : Int) (w : World) : Calls Try.prog 16 #[.int .i64 a, .int .i64 b] w fun e w' => e = .returned (.int .i64 (min a b)) ∧ w = w' := by
  by_cases h : a < b
  · have e : min a b = a := by omega
    rw [e]
    go_enter Try.func16, Try.ntmps16
    go_wp2
    go_ret
    exact ⟨rfl, rfl⟩
  · have e : min a b = b := by omega
    rw [e]
    go_enter Try.func16, Try.ntmps16
    go_wp2
    go_ret
    exact ⟨rfl, rfl⟩
/-- the frames of the first g groups and the first x of the next -/
def cutMid (o : Int) (body : ByteArray) (n m g x : Nat) : List ByteArray := cutTo o body n m g ++ framesTo o body n m g x

set_option maxRecDepth 100000 in
set_option maxHeartbeats 2000000 in
theorem l06Cut_any (o : Int) (body : ByteArray) (n m : Nat) (w : World) (ho : isB o 1 1000000 = true) (hb : body.size ≤ 900) (hf : fineB (n : Nat) (m : Nat) 1 = true) :
    Calls Try.prog 11 #[.int .i64 o, .string body, .int .i64 (n : Nat), .int .i64 (m : Nat)] w fun e w' => ∃ u, e = .returned u ∧ OwnS w' w.heap.size u (cutTo o body n m (groupsN body.size)) ∧ Below w.heap.size w w' := by
  obtain ⟨n', m', s', e1, e2, e3, q1, q2, q3, q4, q5⟩ := fine_parts hf
  have q1 : 1 ≤ n := by omega
  have q2 : n ≤ 6 := by omega
  have q3 : m ≤ 4 := by omega
  clear e1 e2 e3 q4 q5
  have HMN : Hid (∀ g W, g < groupsN body.size → Calls Try.prog 16 #[.int .i64 (body.size : Nat), .int .i64 ((((g : Nat) : Int) + 1) * 100)] W fun e w' => e = .returned (.int .i64 ((100 * g + groupZ body.size g : Nat) : Int)) ∧ W = w') := fun g W hg => by
    have h2 := groupZ_bd hg
    have h3 := groups_lt.1 hg
    have e : min ((body.size : Nat) : Int) ((((g : Nat) : Int) + 1) * 100) = ((100 * g + groupZ body.size g : Nat) : Int) := by unfold groupZ; omega
    rw [← e]; exact l01Min_any _ _ W
  have HSP : Hid (∀ g W, g < groupsN body.size → Calls Try.prog 17 #[.string (groupT body g), .int .i64 (n : Nat), .int .i64 (m : Nat)] W fun e w' => ∃ g2 cap, e = .returned (.slice (some ⟨g2, 0, none⟩) (n + m) cap) ∧ OwnS w' W.heap.size (.slice (some ⟨g2, 0, none⟩) (n + m) cap) ((spreadL (nb (groupT body g)) n m).map toB) ∧ Below W.heap.size W w') := fun g W hg => by
    have h1 := groupT_size hg
    have h2 := groupZ_bd hg
    exact specSpreadIn_any (groupT body g) n m W q1 q2 q3 (by omega) (by omega)
  have HBY : Hid (∀ g x W, g < groupsN body.size → x < n + m → Calls Try.prog 18 #[.agg #[.int .i64 o, .int .i64 (g : Nat), .int .i64 (groupsN body.size : Nat), .int .i64 (n : Nat), .int .i64 (m : Nat), .int .i64 ((groupT body g).size : Nat), .int .i64 (x : Nat), .string (toB ((spreadL (nb (groupT body g)) n m).getD x []))]] W fun e w' => e = .returned (.string (frameOf o body n m g x).bytes) ∧ Below W.heap.size W w') := fun g x W hg hx => l06Bytes_any (frameOf o body n m g x) W (frameOf_right ho hb hf hg hx)
  have HPC : Hid (∀ g x, x < n + m → ((spreadL (nb (groupT body g)) n m).map toB)[x]? = some (toB ((spreadL (nb (groupT body g)) n m).getD x []))) := fun g x hx => by
    have hl := spreadL_len (nb (groupT body g)) n m
    rw [List.getElem?_map, List.getD, List.getElem?_eq_getElem (by omega)]; rfl
  have HPL : Hid (∀ g, ((spreadL (nb (groupT body g)) n m).map toB).length = n + m) := fun g => by rw [List.length_map, spreadL_len]
  have HTZ : Hid (∀ g, g < groupsN body.size → (groupT body g).size = groupZ body.size g ∧ 1 ≤ groupZ body.size g ∧ groupZ body.size g ≤ 100 ∧ 100 * g + groupZ body.size g ≤ body.size) := fun g hg => ⟨groupT_size hg, groupZ_bd hg⟩
  have HGT : Hid (∀ g, body.extract (100 * g) (100 * g + groupZ body.size g) = groupT body g) := fun g => rfl
  have HM0 : Hid (∀ g, cutMid o body n m g 0 = cutTo o body n m g) := fun g => by show cutTo o body n m g ++ [] = _; rw [List.append_nil]
  have HMS : Hid (∀ g x, cutMid o body n m g (x + 1) = cutMid o body n m g x ++ [(frameOf o body n m g x).bytes]) := fun g x => by unfold cutMid; rw [framesTo_succ, List.append_assoc]
  have HME : Hid (∀ g, cutMid o body n m g (n + m) = cutTo o body n m (g + 1)) := fun g => by rw [cutTo_succ]; rfl
  have HML : Hid (∀ g x, g ≤ 9 → x ≤ n + m → (cutMid o body n m g x).length ≤ 100) := fun g x hg hx => by
    have h1 : g * (n + m) ≤ 9 * 10 := Nat.mul_le_mul hg (by omega)
    unfold cutMid
    rw [List.length_append, cutTo_len, framesTo_len]; omega
  have HG9 : Hid (groupsN body.size ≤ 9) := groups_le hb
  have HGN : Hid (((body.size : Nat) : Int) + 100 - 1 = ((body.size + 99 : Nat) : Int) ∧ (((body.size + 99 : Nat) : Int) / 100 = ((groupsN body.size : Nat) : Int))) := ⟨by omega, by unfold groupsN; omega⟩
  have hC0 : Hid (cutTo o body n m 0 = []) := rfl
  have hbz : (body.size : Int) ≤ 900 := by omega
  have hgn : (((body.size : Nat) : Int) + 100 - 1) / 100 = ((groupsN body.size : Nat) : Int) := by unfold groupsN; omega
  obtain ⟨G, hG⟩ : ∃ G, G = groupsN body.size := ⟨_, rfl⟩
  rw [← hG] at HMN HSP HBY HTZ HG9 hgn ⊢
  generalize hZ : groupZ body.size = Z at *
  generalize hT : groupT body = T at *
  generalize hCM : cutMid o body n m = CM at *
  generalize hCT : cutTo o body n m = CT at *
  generalize hFO : (fun g x => (frameOf o body n m g x).bytes) = FO at *
  have HFO : Hid (∀ g x, (frameOf o body n m g x).bytes = FO g x) := fun g x => by rw [← hFO]
  generalize hPP : (fun g => (spreadL (nb (T g)) n m).map toB) = PP at *
  have HPP : Hid (∀ g, (spreadL (nb (T g)) n m).map toB = PP g) := fun g => by rw [← hPP]
  generalize hPI : (fun g x => toB ((spreadL (nb (T g)) n m).getD x [])) = PI at *
  have HPI : Hid (∀ g x, toB ((spreadL (nb (T g)) n m).getD x []) = PI g x) := fun g x => by rw [← hPI]
  have HC0 : Hid (CT 0 = []) := hC0
  have hg9 := HG9.out
  clear HGN ho hb hf hG hZ hT hCM hCT hFO hPP hPI hC0
  go_enter Try.func11, Try.ntmps11
  go_wp2
  rw [hgn]
  clear hgn
  go_loopw [9, 11] (fun v i wr => ∃ g : Nat, g ≤ G ∧ i = .int .i64 g ∧ OwnS wr w.heap.size v (CT g) ∧ Below w.heap.size w wr) (fun _ i _ => G - (intOf i).toNat)
  case atStart => exact ⟨0, by omega, rfl, by rw [HC0.out]; exact ownV_empty _ w _ (Nat.le_refl _), bself' _⟩
  case round =>
    obtain ⟨g, hg, rfl, hown, hbel⟩ := hrel
    have HOWN : Hid (OwnS wr w.heap.size u9 (CT g)) := hown
    have HBEL : Hid (Below w.heap.size w wr) := hbel
    clear hown
    by_cases hlt : g < G
    · have p1 : (g : Int) < (G : Int) := by omega
      obtain ⟨r, hr⟩ : ∃ r, r = 100 * g + Z g := ⟨_, rfl⟩
      obtain ⟨t1, t2, t3, t4⟩ := HTZ.out g hlt
      have HMJ : Hid (∀ W, Calls Try.prog 16 #[.int .i64 (body.size : Nat), .int .i64 ((((g : Nat) : Int) + 1) * 100)] W fun e w' => e = .returned (.int .i64 (r : Nat)) ∧ W = w') := fun W => by rw [hr]; exact HMN.out g W hlt
      have hsl : ∀ W, (Instr.slice 9 (.string body) (some (.int .i64 ((g : Int) * 100))) (some (.int .i64 (r : Nat))) none).run Try.prog W = .ok (.string (T g)) W := fun W => by
        rw [← HGT.out g, ← hr]
        exact slice_text body (100 * g) r (by omega) (by omega) _ _ (by omega) rfl W
      have HRR : Hid (r = 100 * g + Z g) := hr
      have hr1 : (g : Int) * 100 ≤ (r : Int) := by omega
      have hr2 : (r : Int) ≤ (body.size : Int) := by omega
      clear hbel hr
      have HSPG : Hid (∀ W, Calls Try.prog 17 #[.string (T g), .int .i64 (n : Nat), .int .i64 (m : Nat)] W fun e w' => ∃ g2 cap, e = .returned (.slice (some ⟨g2, 0, none⟩) (n + m) cap) ∧ OwnS w' W.heap.size (.slice (some ⟨g2, 0, none⟩) (n + m) cap) (PP g) ∧ Below W.heap.size W w') := fun W => by rw [← HPP.out]; exact HSP.out g W hlt
      have HPG : Hid (∀ x, x < n + m → (PP g)[x]? = some (PI g x)) := fun x hx => by rw [← HPP.out, ← HPI.out]; exact HPC.out g x hx
      have HPGL : Hid ((PP g).length = n + m) := by rw [← HPP.out]; exact HPL.out g
      have HBG : Hid (∀ x W, x < n + m → Calls Try.prog 18 #[.agg #[.int .i64 o, .int .i64 (g : Nat), .int .i64 (G : Nat), .int .i64 (n : Nat), .int .i64 (m : Nat), .int .i64 ((T g).size : Nat), .int .i64 (x : Nat), .string (PI g x)]] W fun e w' => e = .returned (.string (FO g x)) ∧ Below W.heap.size W w') := fun x W hx => by rw [← HPI.out, ← HFO.out]; exact HBY.out g x W hlt hx
      have HMG0 : Hid (CM g 0 = CT g) := HM0.out g
      have HMGS : Hid (∀ x, CM g (x + 1) = CM g x ++ [FO g x]) := fun x => by rw [HMS.out, HFO.out]
      have HMGE : Hid (CM g (n + m) = CT (g + 1)) := HME.out g
      have HMGL : Hid (∀ x, x ≤ n + m → (CM g x).length ≤ 100) := fun x hx => HML.out g x (by omega) hx
      have htz : ((T g).size : Int) ≤ 100 := by omega
      clear t1 t2 t3 t4
      generalize T g = tg at *
      generalize PP g = pg at *
      generalize PI g = pig at *
      generalize FO g = fog at *
      generalize CM g = cmg at *
      go_wp2_with (first | (go_at_call 16; refine (HMJ.out _).mono ?_; rintro e w' ⟨rfl, rfl⟩))
      refine (HSPG.out _).mono ?_
      rintro e w3 ⟨g2, cap, rfl, ho3, hb3⟩
      have HT3 : Hid (Two 9 9 w3 w.heap.size u9 ((cmg 0).map Value.string) (.slice (some ⟨g2, 0, none⟩) (n + m) cap) (pg.map Value.string)) := by
        rw [HMG0.out]
        refine ⟨OwnS.below HOWN.out hb3 (Nat.le_refl _), OwnV.below ho3 (Below.refl _ _) HBEL.out.size, fun k h1 h2 => ?_⟩
        have e1 := (OwnV.lt HOWN.out k h1).2
        have e2 := (OwnV.lt ho3 k h2).1
        omega
      have HB3 : Hid (Below w.heap.size w w3) := bstep HBEL.out hb3
      clear ho3 hb3 HSPG hsl HMJ
      go_wp2
      go_loopw [9, 14] (fun v i wq => ∃ x : Nat, x ≤ n + m ∧ i = .int .i64 x ∧ Two 9 9 wq w.heap.size v ((cmg x).map Value.string) (.slice (some ⟨g2, 0, none⟩) (n + m) cap) (pg.map Value.string) ∧ Below w.heap.size w wq) (fun _ i _ => n + m - (intOf i).toNat)
      case atStart => exact ⟨0, by omega, rfl, HT3.out, HB3.out⟩
      case round =>
        obtain ⟨x, hx, rfl, htwo, hbel⟩ := hrel
        have HTW : Hid (Two 9 9 wr w.heap.size u9 ((cmg x).map Value.string) (.slice (some ⟨g2, 0, none⟩) (n + m) cap) (pg.map Value.string)) := htwo
        have HBW : Hid (Below w.heap.size w wr) := hbel
        have hzq := hbel.size
        clear htwo HT3 HOWN
        by_cases hltx : x < n + m
        · have c1 : wr.cell? ⟨g2, x, none⟩ = some (.string (pig x)) := by
            obtain ⟨a', cap', hv, _, hc⟩ := OwnV.cells HTW.out.r
            injection hv with hv1 _ _
            subst hv1
            have hl : (pg.map Value.string).length = n + m := by rw [List.length_map, HPGL.out]
            obtain ⟨g', hg', c, _⟩ := hc x (by omega)
            injection hg' with hg'
            injection hg' with e1 _ _
            subst e1
            rw [c, List.getElem?_map, HPG.out x hltx]; rfl
          have HBX : Hid (∀ W, Calls Try.prog 18 #[.agg #[.int .i64 o, .int .i64 (g : Nat), .int .i64 (G : Nat), .int .i64 (n : Nat), .int .i64 (m : Nat), .int .i64 (tg.size : Nat), .int .i64 (x : Nat), .string (pig x)]] W fun e w' => e = .returned (.string (fog x)) ∧ Below W.heap.size W w') := fun W => HBG.out x W hltx
          have HMX : Hid ((cmg (x + 1)).map Value.string = (cmg x).map Value.string ++ [.string (fog x)]) := by show _ = _; rw [HMGS.out x, List.map_append]; rfl
          have HLX : Hid (((cmg x).map Value.string).length ≤ 100) := by rw [List.length_map]; exact HMGL.out x hx
          have p2 : (x : Int) < ((n + m : Nat) : Int) := by omega
          have p3 : (x : Int) < (n : Int) + (m : Int) := by omega
          generalize pig x = p at *
          generalize fog x = y at *
          generalize (cmg x).map Value.string = ol at *
          clear hbel
          go_wp2_with fail
          refine (HBX.out _).mono ?_
          rintro e w4 ⟨rfl, hb4⟩
          have HT4 : Hid _ := HTW.out.below hb4
          have HW4 : Hid (Below w.heap.size w w4) := bstep HBW.out hb4
          have hz4 := HW4.out.size
          clear hb4 c1
          go_wp2_with (at_builtin; refine wp_two (by rfl) _ _ 22 9 9 (.string ByteArray.empty) 16 (by rfl) underStrs infoStr rfl (by omega) w.heap.size w4.heap.size u9 _ ol (pg.map Value.string) (.string y) (by rfl) (by rfl) (HT4.out.alloc _) (size_new hz4 _) (cell_new _ _ _) rfl (by have := HLX.out; omega) ?_; intro g5 c5 w5 h5 hb5 hz5; have HT5 := shutC h5; have HB5 := shutC ((HW4.out.alloc hz4 _).trans hb5); clear h5 hb5 hz5)
          go_roundw
          case rel => exact ⟨x + 1, by omega, by go_num, by rw [HMX.out]; exact HT5.out, HB5.out⟩
          case measure => simp [intOf]; omega
        · obtain rfl : x = n + m := by omega
          clear hbel
          have HOE : Hid (OwnS wr w.heap.size u9 (CT (g + 1))) := by rw [← HMGE.out]; exact HTW.out.l
          go_wp2
          go_roundw
          case rel => exact ⟨g + 1, by omega, by go_num, HOE.out, HBW.out⟩
          case measure => simp [intOf]; omega
    · obtain rfl : g = G := by omega
      clear hbel
      go_wp2
      go_ret
      exact ⟨_, rfl, HOWN.out, HBEL.out⟩

theorem isB_same {n l h : Int} {b : Bool} (e : isB n l h = b) (W : World) : Calls Try.prog 9 #[.int .i64 n, .int .i64 l, .int .i64 h] W fun e w' => e = .returned (.bool b) ∧ W = w' := by
  subst e; exact l05Is_any n l h W
theorem fine_same {n m s : Int} {b : Bool} (e : fineB n m s = b) (W : World) : Calls Try.prog 10 #[.int .i64 n, .int .i64 m, .int .i64 s] W fun e w' => e = .returned (.bool b) ∧ W = w' := by
  subst e; exact specFine_any n m s W
set_option maxRecDepth 100000 in
set_option maxHeartbeats 1000000 in
theorem specCut_any (o : Int) (body : ByteArray) (need more : Int) (w : World) (hbb : body.size ≤ 2000000) :
    Calls Try.prog 4 #[.int .i64 o, .string body, .int .i64 need, .int .i64 more] w fun e w' => ∃ u, e = .returned u ∧ OwnS w' w.heap.size u (cutO o body need more) ∧ Below w.heap.size w w' := by
  have HE : Hid (∀ b, cutOk o body need more = false → b = cutO o body need more → b = []) := fun b h e => by rw [e]; unfold cutO; rw [h]; rfl
  have hok : cutOk o body need more = (decide (1 ≤ body.size ∧ body.size ≤ 900) && isB o 1 1000000 && fineB need more 1) := rfl
  by_cases h1 : body.size < 1
  · have e : cutO o body need more = [] := HE.out _ (by rw [hok, decide_eq_false (by omega)]; rfl) rfl
    rw [e]
    have p1 : (body.size : Int) < 1 := by omega
    clear hok HE e
    go_enter Try.func4, Try.ntmps4
    go_wp2
    go_ret
    exact ⟨_, rfl, ownV_empty _ w _ (Nat.le_refl _), bself' _⟩
  have p1 : ¬ (body.size : Int) < 1 := by omega
  by_cases h2 : 900 < body.size
  · have e : cutO o body need more = [] := HE.out _ (by rw [hok, decide_eq_false (by omega)]; rfl) rfl
    rw [e]
    have p2 : (900 : Int) < (body.size : Int) := by omega
    clear hok HE e
    go_enter Try.func4, Try.ntmps4
    go_wp2
    go_ret
    exact ⟨_, rfl, ownV_empty _ w _ (Nat.le_refl _), bself' _⟩
  have p2 : ¬ (900 : Int) < (body.size : Int) := by omega
  by_cases h3 : isB o 1 1000000 = true
  · have H3 : Hid _ := fun W => isB_same h3 W
    by_cases h4 : fineB need more 1 = true
    · have H4 : Hid _ := fun W => fine_same h4 W
      have e : cutO o body need more = cutTo o body need.toNat more.toNat (groupsN body.size) := by
        unfold cutO
        rw [hok, h3, h4, decide_eq_true (by omega)]; rfl
      rw [e]
      have HC : Hid (∀ W, Calls Try.prog 11 #[.int .i64 o, .string body, .int .i64 need, .int .i64 more] W fun e w' => ∃ u, e = .returned u ∧ OwnS w' W.heap.size u (cutTo o body need.toNat more.toNat (groupsN body.size)) ∧ Below W.heap.size W w') := fun W => by
        obtain ⟨n', m', s', rfl, rfl, _⟩ := fine_parts h4
        simp only [Int.toNat_natCast]
        exact l06Cut_any o body n' m' W h3 (by omega) h4
      clear hok HE h3 h4 e
      go_enter Try.func4, Try.ntmps4
      go_wp2_with (first | (go_at_call 9; refine (H3.out _).mono ?_; rintro e w' ⟨rfl, rfl⟩) | (go_at_call 10; refine (H4.out _).mono ?_; rintro e w' ⟨rfl, rfl⟩))
      refine (HC.out _).mono ?_
      rintro e w1 ⟨u, rfl, ho, hb⟩
      have HO : Hid _ := ho
      have HB : Hid _ := hb
      clear ho hb
      go_wp2
      go_ret
      exact ⟨_, rfl, HO.out, HB.out⟩
    · have h4' : fineB need more 1 = false := by simpa using h4
      have H4 : Hid _ := fun W => fine_same h4' W
      have e : cutO o body need more = [] := HE.out _ (by rw [hok, h4']; simp) rfl
      rw [e]
      clear hok HE h3 h4 h4' e
      go_enter Try.func4, Try.ntmps4
      go_wp2_with (first | (go_at_call 9; refine (H3.out _).mono ?_; rintro e w' ⟨rfl, rfl⟩) | (go_at_call 10; refine (H4.out _).mono ?_; rintro e w' ⟨rfl, rfl⟩))
      go_ret
      exact ⟨_, rfl, ownV_empty _ w _ (Nat.le_refl _), bself' _⟩
  · have h3' : isB o 1 1000000 = false := by simpa using h3
    have H3 : Hid _ := fun W => isB_same h3' W
    have e : cutO o body need more = [] := HE.out _ (by rw [hok, h3']; simp) rfl
    rw [e]
    clear hok HE h3 h3' e
    go_enter Try.func4, Try.ntmps4
    go_wp2_with (go_at_call 9; refine (H3.out _).mono ?_; rintro e w' ⟨rfl, rfl⟩)
    go_ret
    exact ⟨_, rfl, ownV_empty _ w _ (Nat.le_refl _), bself' _⟩
end Go.Proofs.Ytkanhjafchiikab.Frm
