/- FnField's own road. -/
import Derived.Test.YtdljakemiplgnaaLineTheory
import Derived.Test.YtdljakemiplgnaaDrawField
import Derived.Test.YtdljakemiplgnaaSpecInterp
import Derived.Test.YtdljakemiplgnaaImplInterp
import Derived.Deep.CutRange
import Derived.Deep.DeepCutAuto
namespace Go.Proofs.Ytdljakemiplgnaa.FieldWalk
open Go.RowKit Go.Proofs.Ytdljakemiplgnaa.Mem Go.Proofs.Ytdljakemiplgnaa.Gf Go.Proofs.Ytdljakemiplgnaa.Draw Go.Proofs.Ytdljakemiplgnaa.Harn

set_option maxRecDepth 100000 in
theorem big (a0 : Option Addr) (len0 cap0 : Nat) (a1 : Option Addr) (len1 cap1 : Nat) (w : World) (h : (1048576 : Int) < len0 ∨ (1048576 : Int) < len1) :
    Calls Try.prog 3 #[.slice a0 len0 cap0, .slice a1 len1 cap1] w fun e w' => e = .returned (.bool true) ∧ Below w.heap.size w w' := by
  by_cases h0 : (1048576 : Int) < len0
  · go_enter Try.func3, Try.ntmps3
    go_wp2
    go_ret
    exact ⟨rfl, Below.refl _ _⟩
  · have h1 : (1048576 : Int) < len1 := by omega
    go_enter Try.func3, Try.ntmps3
    go_wp2
    go_ret
    exact ⟨rfl, Below.refl _ _⟩

set_option maxRecDepth 100000 in
set_option maxHeartbeats 4000000 in
theorem small (a0 : Option Addr) (len0 cap0 : Nat) (z0 : List Int) (a1 : Option Addr) (len1 cap1 : Nat) (z1 : List Int) (w : World) (w0 : IsRow w a0 len0 cap0 z0) (w1 : IsRow w a1 len1 cap1 z1)
    (h0 : (len0 : Int) ≤ 1048576) (h1 : (len1 : Int) ≤ 1048576) :
    Calls Try.prog 3 #[.slice a0 len0 cap0, .slice a1 len1 cap1] w fun e w' => e = .returned (.bool true) ∧ Below w.heap.size w w' := by
  have H0 : Hid (IsRow w a0 len0 cap0 z0) := w0
  have H1 : Hid (IsRow w a1 len1 cap1 z1) := w1
  clear w0 w1
  go_enter Try.func3, Try.ntmps3
  go_wp2_with fail
  refine (drawMul_any w a0 len0 cap0 z0 H0.out).mono ?_
  rintro e W1 ⟨a, b, rfl, _, _, _, _, hb1⟩
  have HB1 : Hid (Below w.heap.size w W1) := hb1
  clear hb1
  go_wp2_with fail
  refine (drawInv_any W1 a1 len1 cap1 z1 (row_below H1.out HB1.out)).mono ?_
  rintro e W2 ⟨c, rfl, _, _, hb2⟩
  have HB2 : Hid (Below w.heap.size w W2) := bstep HB1.out hb2
  clear hb2 HB1
  go_wp2_with fail
  refine (drawDiv_any W2 a1 len1 cap1 z1 (row_below H1.out HB2.out)).mono ?_
  rintro e W3 ⟨d, f, rfl, _, _, _, _, hb3⟩
  have HB3 : Hid (Below w.heap.size w W3) := bstep HB2.out hb3
  clear hb3 HB2
  go_wp2_with fail
  refine (drawInterp_any W3 a0 len0 cap0 z0 (row_below H0.out HB3.out)).mono ?_
  rintro e W4 ⟨vx, vy, xs, ys, t, rfl, htw, hxn, hyn, hb4⟩
  have HB4 : Hid (Below w.heap.size w W4) := bstep HB3.out hb4
  have HX4 : Hid (Ints W4 vx xs) := OwnV.ints htw.l
  have HY4 : Hid (Ints W4 vy ys) := OwnV.ints htw.r
  have HCX : Hid (∀ a n c, vx = .slice a n c → n ≤ c) := OwnV.caps htw.l
  obtain ⟨ax, cx, hvx, _⟩ := HX4.out
  obtain ⟨ay, cy, hvy, _⟩ := HY4.out
  subst hvx hvy
  clear hb4 HB3 htw H0 H1
  go_wp2_with fail
  refine (implInterp_any _ _ xs ys t W4 HX4.out HY4.out HCX.out).mono ?_
  rintro e W5 ⟨rfl, hb5⟩
  have HB5 : Hid (Below w.heap.size w W5) := bstep HB4.out hb5
  have HX5 : Hid (Ints W5 (.slice ax xs.length cx) xs) := Ints.below HX4.out hb5
  have HY5 : Hid (Ints W5 (.slice ay ys.length cy) ys) := Ints.below HY4.out hb5
  clear hb5 HB4 HX4 HY4
  have hcm := mulZ_comm b a
  go_wp2_with (first
    | (go_at_call 10; refine (implMul_any _ _ _).mono ?_; rintro e w' ⟨rfl, rfl⟩)
    | (go_at_call 11; refine (specMul_any _ _ _).mono ?_; rintro e w' ⟨rfl, rfl⟩)
    | (go_at_call 12; refine (implInv_any _ _).mono ?_; rintro e w' ⟨rfl, rfl⟩)
    | (go_at_call 13; refine (specInv_any _ _).mono ?_; rintro e w' ⟨rfl, rfl⟩)
    | (go_at_call 14; refine (implDiv_any _ _ _).mono ?_; rintro e w' ⟨rfl, rfl⟩)
    | (go_at_call 15; refine (specDiv_any _ _ _).mono ?_; rintro e w' ⟨rfl, rfl⟩))
  refine (specInterp_any _ _ xs ys t W5 HX5.out HY5.out (by omega) (by omega)).mono ?_
  rintro e W6 ⟨rfl, hb6⟩
  have HB6 : Hid (Below w.heap.size w W6) := bstep HB5.out hb6
  have HX6 : Hid (Ints W6 (.slice ax xs.length cx) xs) := Ints.below HX5.out hb6
  have HY6 : Hid (Ints W6 (.slice ay ys.length cy) ys) := Ints.below HY5.out hb6
  clear hb6 HB5 HX5 HY5
  go_upto_region 10 with (first
    | (go_at_call 10; refine (implMul_any _ _ _).mono ?_; rintro e w' ⟨rfl, rfl⟩))
  clear hcm
  go_cut [99] (fun s wx => s = .bool false ∧ wx = W6)
  case first =>
    by_cases p1 : 1 ≤ c
    · by_cases p2 : c ≤ 255
      · have hm := mulInvZ p1 p2
        as_aux_lemma =>
          go_wp2_with (first | (go_at_call 12; refine (implInv_any _ _).mono ?_; rintro e w' ⟨rfl, rfl⟩) | (go_at_call 10; refine (implMul_any _ _ _).mono ?_; rintro e w' ⟨rfl, rfl⟩))
          go_meet
          exact ⟨rfl, rfl⟩
      · as_aux_lemma =>
          go_wp2
          go_meet
          exact ⟨rfl, rfl⟩
    · as_aux_lemma =>
        go_wp2
        go_meet
        exact ⟨rfl, rfl⟩
  case rest =>
  obtain ⟨rfl, rfl⟩ := hcut
  go_upto_region 12 with fail
  go_cut [145] (fun s wx => s = .bool false ∧ wx = wc)
  case first =>
    by_cases p1 : 0 ≤ a
    · by_cases p2 : a ≤ 255
      · by_cases p3 : 1 ≤ b
        · by_cases p4 : b ≤ 255
          · have hm := mulDivZ p1 p2 p3 p4
            by_cases p5 : 0 ≤ c
            · by_cases p6 : c ≤ 255
              · have hx := mulXorZ p1 p2 p3 p4 p5 p6
                as_aux_lemma =>
                  go_wp2_with (first | (go_at_call 14; refine (implDiv_any _ _ _).mono ?_; rintro e w' ⟨rfl, rfl⟩) | (go_at_call 10; refine (implMul_any _ _ _).mono ?_; rintro e w' ⟨rfl, rfl⟩))
                  go_meet
                  exact ⟨rfl, rfl⟩
              · as_aux_lemma =>
                  go_wp2_with (first | (go_at_call 14; refine (implDiv_any _ _ _).mono ?_; rintro e w' ⟨rfl, rfl⟩) | (go_at_call 10; refine (implMul_any _ _ _).mono ?_; rintro e w' ⟨rfl, rfl⟩))
                  go_meet
                  exact ⟨rfl, rfl⟩
            · as_aux_lemma =>
                go_wp2_with (first | (go_at_call 14; refine (implDiv_any _ _ _).mono ?_; rintro e w' ⟨rfl, rfl⟩) | (go_at_call 10; refine (implMul_any _ _ _).mono ?_; rintro e w' ⟨rfl, rfl⟩))
                go_meet
                exact ⟨rfl, rfl⟩
          · as_aux_lemma =>
              go_wp2
              go_meet
              exact ⟨rfl, rfl⟩
        · as_aux_lemma =>
            go_wp2
            go_meet
            exact ⟨rfl, rfl⟩
      · as_aux_lemma =>
          go_wp2
          go_meet
          exact ⟨rfl, rfl⟩
    · as_aux_lemma =>
        go_wp2
        go_meet
        exact ⟨rfl, rfl⟩
  case rest =>
  obtain ⟨rfl, rfl⟩ := hcut
  have HX : Hid (Ints wc (.slice ax xs.length cx) xs) := HX6.out
  have HY : Hid (Ints wc (.slice ay ys.length cy) ys) := HY6.out
  have HB : Hid (Below w.heap.size w wc) := HB6.out
  clear HX6 HY6 HB6
  by_cases hl : ys.length = xs.length
  · by_cases h10 : xs.length ≤ 10
    · have HL : Hid (ys.length = xs.length) := hl
      have hne : ((ys.length : Int) != (xs.length : Int)) = false := by rw [bne_eq_false_iff_eq]; omega
      have HXC : Hid (∀ j (h : j < xs.length), ∃ b o, ax = some ⟨b, o, none⟩ ∧ wc.cell? ⟨b, o + j, none⟩ = some (.int .i64 (xs.getD j 0))) := fun j h => by
        obtain ⟨a', c', hv, hc⟩ := HX.out
        injection hv with hv1 hv2 hv3
        subst hv1
        obtain ⟨b, o, hbo, c⟩ := hc j h
        exact ⟨b, o, hbo, by rw [getZ h]; exact c⟩
      have HYC : Hid (∀ j (h : j < xs.length), ∃ b o, ay = some ⟨b, o, none⟩ ∧ wc.cell? ⟨b, o + j, none⟩ = some (.int .i64 (ys.getD j 0))) := fun j h => by
        obtain ⟨a', c', hv, hc⟩ := HY.out
        injection hv with hv1 hv2 hv3
        subst hv1
        obtain ⟨b, o, hbo, c⟩ := hc j (by omega)
        exact ⟨b, o, hbo, by rw [getZ (by omega)]; exact c⟩
      clear hl
      as_aux_lemma =>
        go_wp2
        go_loopw [14, 15] (fun i _ wr => ∃ k : Nat, k ≤ xs.length ∧ i = .int .i64 k ∧ (∀ i, i < k → Fine xs ys i) ∧ ∃ n, wr = wc.drewN n) (fun i _ _ => xs.length - (intOf i).toNat)
        case atStart => exact ⟨0, by omega, rfl, fun i hi => by omega, 0, rfl⟩
        case round =>
          obtain ⟨k, hk, rfl, hfi, n, rfl⟩ := hrel
          have HFI : Hid (∀ i, i < k → Fine xs ys i) := hfi
          clear hfi
          by_cases hlt : k < xs.length
          · obtain ⟨b1, o1, rfl, c1⟩ := HXC.out k hlt
            have p1 : (k : Int) < (xs.length : Int) := by omega
            generalize hxk : xs.getD k 0 = xk at *
            have HXK : Hid (xs.getD k 0 = xk) := hxk
            clear hxk
            go_wp2
            go_loopw [15] (fun j wr => ∃ m : Nat, m ≤ xs.length ∧ j = .int .i64 m ∧ (∀ j, j < m → el (xs.getD j 0) = true ∧ el (ys.getD j 0) = true ∧ (j ≠ k → xs.getD j 0 ≠ xk)) ∧ ∃ n, wr = wc.drewN n) (fun j _ => xs.length - (intOf j).toNat)
            case atStart => exact ⟨0, by omega, rfl, fun i hi => by omega, n, rfl⟩
            case round =>
              obtain ⟨m, hm, rfl, hin, n, rfl⟩ := hrel
              have HIN : Hid (∀ j, j < m → el (xs.getD j 0) = true ∧ el (ys.getD j 0) = true ∧ (j ≠ k → xs.getD j 0 ≠ xk)) := hin
              clear hin
              by_cases hlm : m < xs.length
              · obtain ⟨b1', o1', hbo, c2⟩ := HXC.out m hlm
                injection hbo with hbo
                injection hbo with q1 q2 _
                subst q1 q2
                obtain ⟨b2, o2, rfl, c3⟩ := HYC.out m hlm
                have p2 : (m : Int) < (xs.length : Int) := by omega
                have p3 : (m : Int) < (ys.length : Int) := by have := HL.out; omega
                generalize hxm : xs.getD m 0 = xm at *
                generalize hym : ys.getD m 0 = ym at *
                have HXM : Hid (xs.getD m 0 = xm) := hxm
                have HYM : Hid (ys.getD m 0 = ym) := hym
                clear hxm hym
                by_cases g1 : xm < 0
                · as_aux_lemma =>
                    go_wp2_with fail
                    go_quiet (fail)
                    go_wp2
                    go_ret
                    exact ⟨rfl, Sha.bel_drewN (Sha.bel_drewN HB.out _) _⟩
                · have e1 : decide (xm < 0) = false := decide_eq_false g1
                  by_cases g2 : 255 < xm
                  · as_aux_lemma =>
                      go_wp2_with fail
                      go_quiet (fail)
                      go_wp2
                      go_ret
                      exact ⟨rfl, Sha.bel_drewN (Sha.bel_drewN HB.out _) _⟩
                  · have e2 : decide (255 < xm) = false := decide_eq_false g2
                    by_cases g3 : ym < 0
                    · as_aux_lemma =>
                        go_wp2_with fail
                        go_quiet (fail)
                        go_wp2
                        go_ret
                        exact ⟨rfl, Sha.bel_drewN (Sha.bel_drewN HB.out _) _⟩
                    · have e3 : decide (ym < 0) = false := decide_eq_false g3
                      by_cases g4 : 255 < ym
                      · as_aux_lemma =>
                          go_wp2_with fail
                          go_quiet (fail)
                          go_wp2
                          go_ret
                          exact ⟨rfl, Sha.bel_drewN (Sha.bel_drewN HB.out _) _⟩
                      · have e4 : decide (255 < ym) = false := decide_eq_false g4
                        have ex : el xm = true := el_in (by omega) (by omega)
                        have ey : el ym = true := el_in (by omega) (by omega)
                        by_cases g5 : m = k
                        · have g5' : ((m : Int) != (k : Int)) = false := by rw [bne_eq_false_iff_eq]; omega
                          have HN : Hid (∀ j, j < m + 1 → el (xs.getD j 0) = true ∧ el (ys.getD j 0) = true ∧ (j ≠ k → xs.getD j 0 ≠ xk)) := fun j hj => by
                            by_cases e : j = m
                            · subst e; exact ⟨by rw [HXM.out]; exact ex, by rw [HYM.out]; exact ey, fun h => absurd g5 h⟩
                            · exact HIN.out j (by omega)
                          clear g5
                          as_aux_lemma =>
                            go_wp2_with fail
                            go_quiet (fail)
                            go_wp2
                            go_roundw
                            case rel => exact ⟨m + 1, by omega, by go_num, HN.out, _, rfl⟩
                            case measure => simp [intOf]; omega
                        · have g5' : ((m : Int) != (k : Int)) = true := by rw [bne_iff_ne]; omega
                          by_cases g6 : xm = xk
                          · have g6' : (xm == xk) = true := by simpa using g6
                            clear g6 g5
                            as_aux_lemma =>
                              go_wp2_with fail
                              go_quiet (fail)
                              go_wp2
                              go_ret
                              exact ⟨rfl, Sha.bel_drewN (Sha.bel_drewN HB.out _) _⟩
                          · have g6' : (xm == xk) = false := by simpa using g6
                            have HN : Hid (∀ j, j < m + 1 → el (xs.getD j 0) = true ∧ el (ys.getD j 0) = true ∧ (j ≠ k → xs.getD j 0 ≠ xk)) := fun j hj => by
                              by_cases e : j = m
                              · subst e; exact ⟨by rw [HXM.out]; exact ex, by rw [HYM.out]; exact ey, fun _ => by rw [HXM.out]; exact g6⟩
                              · exact HIN.out j (by omega)
                            clear g6 g5
                            as_aux_lemma =>
                              go_wp2_with fail
                              go_quiet (fail)
                              go_wp2
                              go_roundw
                              case rel => exact ⟨m + 1, by omega, by go_num, HN.out, _, rfl⟩
                              case measure => simp [intOf]; omega
              · obtain rfl : m = xs.length := by omega
                have HF2 : Hid (∀ i, i < k + 1 → Fine xs ys i) := fun i hi => by
                  by_cases e : i = k
                  · subst e; intro j hj; rw [HXK.out]; exact HIN.out j hj
                  · exact HFI.out i (by omega)
                go_wp2
                go_roundw
                case rel => exact ⟨k + 1, by omega, by go_num, HF2.out, _, rfl⟩
                case measure => simp [intOf]; omega
          · obtain rfl : k = xs.length := by omega
            have HAT : Hid (∀ i, i < xs.length → interpZ xs ys (xs.getD i 0) = ys.getD i 0) := fun i hi => interp_at hi HL.out h10 HFI.out
            go_wp2
            go_loopw [16] (fun i wr => ∃ m : Nat, m ≤ xs.length ∧ i = .int .i64 m ∧ Below wc.heap.size wc wr) (fun i _ => xs.length - (intOf i).toNat)
            case atStart => exact ⟨0, by omega, rfl, Sha.bel_drewN (Below.refl _ _) _⟩
            case round =>
              obtain ⟨m, hm, rfl, hbel⟩ := hrel
              have HBR : Hid (Below wc.heap.size wc wr) := hbel
              by_cases hlm : m < xs.length
              · obtain ⟨b1, o1, rfl, d1⟩ := HXC.out m hlm
                obtain ⟨b2, o2, rfl, d2⟩ := HYC.out m hlm
                have c1 : wr.cell? ⟨b1, o1 + m, none⟩ = _ := (hbel.cell (World.block_lt_of_cell? wc _ d1)).trans d1
                have c2 : wr.cell? ⟨b2, o2 + m, none⟩ = _ := (hbel.cell (World.block_lt_of_cell? wc _ d2)).trans d2
                have HXR : Hid (Ints wr.drew (.slice (some ⟨b1, o1, none⟩) xs.length cx) xs) := Ints.below HX.out (Sha.bel_drewN hbel 1)
                have HYR : Hid (Ints wr.drew (.slice (some ⟨b2, o2, none⟩) ys.length cy) ys) := Ints.below HY.out (Sha.bel_drewN hbel 1)
                have HAM := HAT.out m hlm
                have l1 := World.block_lt_of_cell? wr _ c1
                have l2 := World.block_lt_of_cell? wr _ c2
                simp only at l1 l2
                have p2 : (m : Int) < (xs.length : Int) := by omega
                have p3 : (m : Int) < (ys.length : Int) := by have := HL.out; omega
                have HCI : Hid (Calls Try.prog 9 #[.slice (some ⟨b1, o1, none⟩) xs.length cx, .slice (some ⟨b2, o2, none⟩) ys.length cy, .int .i64 (xs.getD m 0)] wr.drew fun e w' => e = .returned (.int .i64 (ys.getD m 0)) ∧ Below wr.drew.heap.size wr.drew w') := by
                  rw [← HAM]; exact implInterp_any _ _ xs ys _ _ HXR.out HYR.out HCX.out
                generalize xs.getD m 0 = xm at *
                generalize ys.getD m 0 = ym at *
                clear HAM d1 d2 hbel
                as_aux_lemma =>
                  go_wp2_with fail
                  go_region_held3 (fun w' => w'.cell? ⟨b1, o1 + m, none⟩ = some (.int .i64 xm) ∧ w'.cell? ⟨b2, o2 + m, none⟩ = some (.int .i64 ym))
                    (first
                      | go_keep
                      | (go_split_ands; refine ⟨?_, ?_⟩ <;> (rw [hbi.cell (by simpa using ‹_ < wr.heap.size›)]; first | exact c1 | exact c2)))
                    ((go_at_call 9; refine (HCI.out).mono ?_; rintro e w' ⟨rfl, hbi⟩))
                  have HBI : Hid (Below wc.heap.size wc w') := bstep HBR.out (by simpa using bstep (Sha.bel_drewN (Below.refl _ wr) 1) hbi)
                  clear hbi
                  go_wp2
                  go_roundw
                  case rel => exact ⟨m + 1, by omega, by go_num, HBI.out⟩
                  case measure => simp [intOf]; omega
              · go_wp2
                go_ret
                exact ⟨rfl, bstep HB.out HBR.out⟩
    · have hne : ((ys.length : Int) != (xs.length : Int)) = false := by rw [bne_eq_false_iff_eq]; omega
      have p2 : (10 : Int) < (xs.length : Int) := by omega
      clear hl
      as_aux_lemma =>
        go_wp2
        go_ret
        exact ⟨rfl, HB.out⟩
  · have hne : ((ys.length : Int) != (xs.length : Int)) = true := by rw [bne_iff_ne]; omega
    clear hl
    as_aux_lemma =>
      go_wp2
      go_ret
      exact ⟨rfl, HB.out⟩

theorem law_any (a0 : Option Addr) (len0 cap0 : Nat) (z0 : List Int) (a1 : Option Addr) (len1 cap1 : Nat) (z1 : List Int) (w : World) (w0 : IsRow w a0 len0 cap0 z0) (w1 : IsRow w a1 len1 cap1 z1) :
    Calls Try.prog 3 #[.slice a0 len0 cap0, .slice a1 len1 cap1] w fun e w' => e = .returned (.bool true) ∧ Below w.heap.size w w' := by
  by_cases h : (1048576 : Int) < len0 ∨ (1048576 : Int) < len1
  · exact big a0 len0 cap0 a1 len1 cap1 w h
  · exact small a0 len0 cap0 z0 a1 len1 cap1 z1 w w0 w1 (by omega) (by omega)
end Go.Proofs.Ytdljakemiplgnaa.FieldWalk
