/- What the model's Interp answers. -/
import Derived.Test.YtdljakemiplgnaaLineOk
namespace Go.Proofs.Ytdljakemiplgnaa.Gf
open Go.RowKit Go.Proofs.Ytdljakemiplgnaa.Mem

set_option maxRecDepth 100000 in
set_option maxHeartbeats 1000000 in
theorem specInterp_any (vx vy : Value) (xs ys : List Int) (t : Int) (w : World) (hx : Harn.Ints w vx xs) (hy : Harn.Ints w vy ys) (h1 : xs.length ≤ 1100000) (_h2 : ys.length ≤ 1100000) :
    Calls Try.prog 16 #[vx, vy, .int .i64 t] w fun e w' => e = .returned (.int .i64 (interpZ xs ys t)) ∧ Below w.heap.size w w' := by
  have HXI : Hid (Harn.Ints w vx xs) := hx
  obtain ⟨a1, cap1, rfl, hc1⟩ := hx
  obtain ⟨a2, cap2, rfl, hc2⟩ := hy
  have HC1 : Hid (∀ j (h : j < xs.length), ∃ b o, a1 = some ⟨b, o, none⟩ ∧ w.cell? ⟨b, o + j, none⟩ = some (.int .i64 xs[j])) := hc1
  have HC2 : Hid (∀ j (h : j < ys.length), ∃ b o, a2 = some ⟨b, o, none⟩ ∧ w.cell? ⟨b, o + j, none⟩ = some (.int .i64 ys[j])) := hc2
  clear hc1 hc2
  by_cases hh : headOk xs ys t = true
  · obtain ⟨g1, g2, g3, g4⟩ := headOk_parts hh
    have HNO : Hid (∀ i, i < xs.length → okAt xs ys i = false → interpZ xs ys t = 0) := fun i hi h => interp_no' hi h
    have HYES : Hid ((∀ i, i < xs.length → okAt xs ys i = true) → interpZ xs ys t = (line (xs.map Int.toNat) (ys.map Int.toNat) t.toNat : Nat)) := fun h => interp_yes hh h
    have hne : ((ys.length : Int) != (xs.length : Int)) = false := by rw [bne_eq_false_iff_eq]; omega
    have HG3 : Hid (ys.length = xs.length) := g3
    generalize interpZ xs ys t = z at *
    clear hh g3
    go_enter Try.func16, Try.ntmps16
    go_wp2_with (first | (go_at_call 33; refine (l05El_any _ _).mono ?_; rintro e w' ⟨rfl, rfl⟩))
    go_loopw [7] (fun i wr => ∃ k : Nat, k ≤ xs.length ∧ i = .int .i64 k ∧ (∀ i, i < k → okAt xs ys i = true) ∧ ∃ n, wr = w.drewN n) (fun i _ => xs.length - (intOf i).toNat)
    case atStart => exact ⟨0, by omega, rfl, fun i hi => by omega, 0, rfl⟩
    case round =>
      obtain ⟨k, hk, rfl, hok, n, rfl⟩ := hrel
      have HOK : Hid (∀ i, i < k → okAt xs ys i = true) := hok
      clear hok
      by_cases hlt : k < xs.length
      · obtain ⟨b1, o1, rfl, c1⟩ := HC1.out k hlt
        obtain ⟨b2, o2, rfl, c2⟩ := HC2.out k (by have := HG3.out; omega)
        have HE1 : Hid (xs.getD k 0 = xs[k]) := getZ hlt
        have HE2 : Hid (ys.getD k 0 = ys[k]'(by have := HG3.out; omega)) := getZ (by have := HG3.out; omega)
        have p1 : (k : Int) < (xs.length : Int) := by omega
        have p2 : (k : Int) < (ys.length : Int) := by have := HG3.out; omega
        generalize ys[k]'(by have := HG3.out; omega) = y at *
        generalize hxk : xs[k] = x at *
        have HXK : Hid (xs[k] = x) := hxk
        clear hxk
        by_cases e1 : el x = true
        · by_cases e2 : el y = true
          · go_wp2_with (first | (go_at_call 33; refine (l05El_any _ _).mono ?_; rintro e w' ⟨rfl, rfl⟩))
            go_loopw [8] (fun j wq => ∃ m : Nat, m ≤ k ∧ j = .int .i64 m ∧ (∀ i, i < m → xs.getD i 0 ≠ x) ∧ ∃ n, wq = w.drewN n) (fun j _ => k - (intOf j).toNat)
            case atStart => exact ⟨0, by omega, rfl, fun i hi => by omega, n, rfl⟩
            case round =>
              obtain ⟨m, hm, rfl, hneq, n, rfl⟩ := hrel
              have HNE : Hid (∀ i, i < m → xs.getD i 0 ≠ x) := hneq
              clear hneq
              by_cases hlm : m < k
              · obtain ⟨b', o', hbo, c3⟩ := HC1.out m (by omega)
                injection hbo with hbo
                injection hbo with q1 q2 _
                subst q1 q2
                have HE3 : Hid (xs.getD m 0 = xs[m]'(by omega)) := getZ (by omega)
                have p3 : (m : Int) < (k : Int) := by omega
                have p4 : (m : Int) < (xs.length : Int) := by omega
                generalize xs[m]'(by omega) = x' at *
                by_cases he : x' = x
                · have hb : (x' == x) = true := by simpa using he
                  have HZ : Hid (z = 0) := HNO.out k hlt (okAt_no3 hlm (by rw [HE3.out, HE1.out, he]))
                  clear he
                  go_wp2_with fail
                  go_quiet (fail)
                  go_wp2
                  go_ret
                  exact ⟨ret_int HZ.out.symm, Sha.bel_drewN (Sha.bel_drewN (Below.refl _ _) _) _⟩
                · have hb : (x' == x) = false := by simpa using he
                  have HNE2 : Hid (∀ i, i < m + 1 → xs.getD i 0 ≠ x) := fun i hi => by
                    by_cases e : i = m
                    · subst e; rw [HE3.out]; exact he
                    · exact HNE.out i (by omega)
                  clear he
                  go_wp2_with fail
                  go_quiet (fail)
                  go_wp2
                  go_roundw
                  case rel => exact ⟨m + 1, by omega, by go_num, HNE2.out, _, rfl⟩
                  case measure => simp [intOf]; omega
              · obtain rfl : m = k := by omega
                have HOK2 : Hid (∀ i, i < m + 1 → okAt xs ys i = true) := fun i hi => by
                  by_cases e : i = m
                  · subst e; exact okAt_yes (by rw [HE1.out]; exact e1) (by rw [HE2.out]; exact e2) (fun j hj => by rw [HE1.out]; exact HNE.out j hj)
                  · exact HOK.out i (by omega)
                go_wp2
                go_roundw
                case rel => exact ⟨m + 1, by omega, by go_num, HOK2.out, _, rfl⟩
                case measure => simp [intOf]; omega
          · have e2' : el y = false := by simpa using e2
            have HZ : Hid (z = 0) := HNO.out k hlt (okAt_no2 (by rw [HE2.out]; exact e2'))
            clear e2
            go_wp2_with (first | (go_at_call 33; refine (l05El_any _ _).mono ?_; rintro e w' ⟨rfl, rfl⟩))
            go_ret
            exact ⟨ret_int HZ.out.symm, Sha.bel_drewN (Below.refl _ _) _⟩
        · have e1' : el x = false := by simpa using e1
          have HZ : Hid (z = 0) := HNO.out k hlt (okAt_no1 (by rw [HE1.out]; exact e1'))
          clear e1
          go_wp2_with (first | (go_at_call 33; refine (l05El_any _ _).mono ?_; rintro e w' ⟨rfl, rfl⟩))
          go_ret
          exact ⟨ret_int HZ.out.symm, Sha.bel_drewN (Below.refl _ _) _⟩
      · obtain rfl : k = xs.length := by omega
        obtain ⟨s1, s2, s3, s4⟩ := els_of HG3.out HOK.out
        have HL : Hid (z = _) := HYES.out HOK.out
        obtain ⟨q, rfl, hq⟩ := el_nat g4
        have HXN : Hid (NumsK .i64 w (.slice a1 (xs.map Int.toNat).length cap1) (xs.map Int.toNat)) := by
          have h0 := nums_of_ints HXI.out s1
          have h1 : NumsK .i64 w (.slice a1 (xs.map Int.toNat).length cap1) (xs.map Int.toNat) := by simpa using h0
          exact h1
        have HLEN : Hid ((xs.map Int.toNat).length = xs.length) := by show _ = _; simp
        have HYN : Hid (∀ j (h : j < ys.length), ∃ y : Nat, ys[j] = y ∧ y < 256) := fun j h => by
          have e := s2 _ (List.getElem_mem h)
          have e2 := s4 _ (List.mem_map_of_mem (f := Int.toNat) (List.getElem_mem h))
          exact ⟨(ys[j]).toNat, by omega, e2⟩
        have HX : Hid (Els (xs.map Int.toNat)) := s3
        have HSM : Hid (∀ k (hk : k < ys.length) (y : Nat), ys[k] = (y : Nat) → sumTo (weight (xs.map Int.toNat) q) (fun i => (ys.map Int.toNat).getD i 0) (k + 1) = sumTo (weight (xs.map Int.toNat) q) (fun i => (ys.map Int.toNat).getD i 0) k ^^^ mul (weight (xs.map Int.toNat) q k) y) := fun k hk y hy => sumTo_map xs ys q k hk y hy
        have HLIN : Hid (z = (sumTo (weight (xs.map Int.toNat) q) (fun i => (ys.map Int.toNat).getD i 0) xs.length : Nat)) := by
          show _ = _
          rw [HL.out]; unfold line; rw [List.length_map]; simp
        have HSL : Hid (∀ k, sumTo (weight (xs.map Int.toNat) q) (fun i => (ys.map Int.toNat).getD i 0) k < 256) := fun k => sumTo_lt _ _ (weight_lt _ _) k
        have HWL : Hid (∀ k, weight (xs.map Int.toNat) q k < 256) := weight_lt _ _
        have HWK : Hid (∀ (W : World), Below w.heap.size w W → Calls Try.prog 37 #[.slice a1 xs.length cap1, .int .i64 (q : Nat)] W fun e w' => ∃ u, e = .returned u ∧ NumsK .i64 w' u (weights (xs.map Int.toNat) q xs.length) ∧ Below W.heap.size W w') := fun W hW => by
          have := specWeights_any _ _ q W (HXN.out.below hW) s3 hq (by simp; omega)
          simpa using this
        have HWA : Hid (∀ i (h : i < (weights (xs.map Int.toNat) q xs.length).length), (weights (xs.map Int.toNat) q xs.length)[i] = weight (xs.map Int.toNat) q i) := fun i h => weights_at _ _ _ _ h
        have HWN : Hid ((weights (xs.map Int.toNat) q xs.length).length = xs.length) := weights_len _ _ _
        generalize weights (xs.map Int.toNat) q xs.length = ws at *
        have HS0 : Hid (sumTo (weight (xs.map Int.toNat) q) (fun i => (ys.map Int.toNat).getD i 0) 0 = 0) := rfl
        generalize hS : sumTo (weight (xs.map Int.toNat) q) (fun i => (ys.map Int.toNat).getD i 0) = S at *
        generalize weight (xs.map Int.toNat) q = wf at *
        clear hS s1 s2 s3 s4 HL HXN HX HOK HYES HNO HLEN
        go_wp2_with (first | (go_at_call 37; refine (HWK.out _ (Sha.bel_drewN (Below.refl _ _) _)).mono ?_; rintro e w1 ⟨u, rfl, hnu, hb1⟩; have HB1 : Hid (Below w.heap.size w w1) := bstep (Sha.bel_drewN (Below.refl _ _) _) hb1; have HNU : Hid (NumsK .i64 w1 u ws) := hnu; clear hnu hb1))
        obtain ⟨a3, cap3, rfl, hc3⟩ := HNU.out
        have HC3 : Hid (∀ j (h : j < ws.length), ∃ b o, a3 = some ⟨b, o, none⟩ ∧ w1.cell? ⟨b, o + j, none⟩ = some (.int .i64 (ws[j] : Nat))) := hc3
        clear hc3 HNU
        go_loopw [10, 11] (fun s i wr => ∃ k : Nat, k ≤ xs.length ∧ i = .int .i64 k ∧ s = .int .i64 (S k : Nat) ∧ ∃ n, wr = w1.drewN n) (fun _ i _ => xs.length - (intOf i).toNat)
        case atStart => exact ⟨0, by omega, rfl, val_int (by rw [HS0.out]; rfl), 0, rfl⟩
        case round =>
          obtain ⟨k, hk, rfl, rfl, n', rfl⟩ := hrel
          by_cases hlt : k < xs.length
          · have hwl := HWN.out
            obtain ⟨b3, o3, rfl, c3⟩ := HC3.out k (by omega)
            obtain ⟨b2, o2, rfl, d2⟩ := HC2.out k (by have := HG3.out; omega)
            have c2 : w1.cell? ⟨b2, o2 + k, none⟩ = _ := (HB1.out.cell (World.block_lt_of_cell? w _ d2)).trans d2
            obtain ⟨y, hy, hyl⟩ := HYN.out k (by have := HG3.out; omega)
            rw [hy] at c2
            rw [HWA.out k (by omega)] at c3
            have HST : Hid (S (k + 1) = S k ^^^ mul (wf k) y) := HSM.out k (by have := HG3.out; omega) y hy
            have p1 : (k : Int) < (xs.length : Int) := by omega
            have p2 : (k : Int) < (ys.length : Int) := by have := HG3.out; omega
            have p3 : (k : Int) < (ws.length : Int) := by omega
            have l1 := HWL.out k
            have l2 := HSL.out k
            have l3 : mul (wf k) y < 256 := mul_lt l1
            have x1 := xorN l2 l3
            generalize wf k = wk at *
            generalize S k = sk at *
            clear d2 hy hwl
            go_wp2_with fail
            go_region_held3 (fun w' => w'.cell? ⟨b3, o3 + k, none⟩ = some (.int .i64 (wk : Nat)) ∧ w'.cell? ⟨b2, o2 + k, none⟩ = some (.int .i64 (y : Nat))) (go_keep)
              ((go_at_call 34; refine (l05Mul_any _ _ _ (by assumption) (by assumption)).mono ?_; rintro e w' ⟨rfl, rfl⟩))
            go_wp2
            go_roundw
            case rel => exact ⟨k + 1, by omega, by go_num, val_int (by rw [HST.out]), _, rfl⟩
            case measure => simp [intOf]; omega
          · obtain rfl : k = xs.length := by omega
            have HE := HLIN.out
            subst HE
            have HB2 : Hid (Below w.heap.size w (w1.drewN n')) := Sha.bel_drewN HB1.out _
            go_wp2
            go_ret
            exact ⟨rfl, HB2.out⟩
  · have hh' : headOk xs ys t = false := by simpa using hh
    have HZ : Hid (interpZ xs ys t = 0) := interp_head hh'
    generalize interpZ xs ys t = z at *
    have HN := headOk_not hh'
    clear hh hh' HXI HC1 HC2
    rcases HN with h | ⟨h, h'⟩ | ⟨h, h', h''⟩ | ⟨h, h', h'', h3⟩
    · have p1 : (xs.length : Int) < 1 := by omega
      go_enter Try.func16, Try.ntmps16
      go_wp2
      go_ret
      exact ⟨ret_int HZ.out.symm, Below.refl _ _⟩
    · have p1 : ¬ (xs.length : Int) < 1 := by omega
      have p2 : (10 : Int) < (xs.length : Int) := by omega
      go_enter Try.func16, Try.ntmps16
      go_wp2
      go_ret
      exact ⟨ret_int HZ.out.symm, Below.refl _ _⟩
    · have p1 : ¬ (xs.length : Int) < 1 := by omega
      have p2 : ¬ (10 : Int) < (xs.length : Int) := by omega
      have p3 : ((ys.length : Int) != (xs.length : Int)) = true := by rw [bne_iff_ne]; omega
      clear h''
      go_enter Try.func16, Try.ntmps16
      go_wp2
      go_ret
      exact ⟨ret_int HZ.out.symm, Below.refl _ _⟩
    · have p1 : ¬ (xs.length : Int) < 1 := by omega
      have p2 : ¬ (10 : Int) < (xs.length : Int) := by omega
      have p3 : ((ys.length : Int) != (xs.length : Int)) = false := by rw [bne_eq_false_iff_eq]; omega
      clear h''
      go_enter Try.func16, Try.ntmps16
      go_wp2_with (go_at_call 33; refine (l05El_any _ _).mono ?_; rintro e w' ⟨rfl, rfl⟩)
      go_ret
      exact ⟨ret_int HZ.out.symm, Below.refl _ _⟩
end Go.Proofs.Ytdljakemiplgnaa.Gf
