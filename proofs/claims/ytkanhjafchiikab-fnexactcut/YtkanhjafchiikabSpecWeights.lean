/- What the model's weights answer. -/
import Derived.Test.YtkanhjafchiikabTextsC
import Derived.Deep.RegionHeld3
namespace Go.Proofs.Ytkanhjafchiikab.Gf
open Go.RowKit Go.Proofs.Ytkanhjafchiikab.Mem

theorem xorN {a b : Nat} (ha : a < 256) (hb : b < 256) : bits .xor .i64 (a : Int) (b : Int) = ((a ^^^ b : Nat) : Int) := xor64 (by omega) (by omega)
theorem getD_at {xs : List Nat} {j : Nat} (h : j < xs.length) : xs.getD j 0 = xs[j] := by simp [List.getD, h]

set_option maxRecDepth 100000 in
set_option maxHeartbeats 1000000 in
theorem specWeights_any (v : Value) (xs : List Nat) (t : Nat) (w : World) (h : NumsK .i64 w v xs) (hx : Els xs) (ht : t < 256) (hn : xs.length ≤ 1000) :
    Calls Try.prog 51 #[v, .int .i64 (t : Nat)] w fun e w' => ∃ u, e = .returned u ∧ NumsK .i64 w' u (weights xs t xs.length) ∧ Below w.heap.size w w' := by
  obtain ⟨a, cap, rfl, hc⟩ := h
  have HC : Hid (∀ j (h : j < xs.length), ∃ b o, a = some ⟨b, o, none⟩ ∧ w.cell? ⟨b, o + j, none⟩ = some (.int .i64 (xs[j] : Nat))) := hc
  have HX : Hid (Els xs) := hx
  clear hc hx
  go_enter Try.func51, Try.ntmps51
  go_wp2
  go_loopw [5, 6] (fun v i wr => ∃ k : Nat, k ≤ xs.length ∧ i = .int .i64 k ∧ OwnN .i64 2 wr w.heap.size v (weights xs t k) ∧ Below w.heap.size w wr) (fun _ i _ => xs.length - (intOf i).toNat)
  case atStart => exact ⟨0, by omega, rfl, ownN_empty _ _ _ _ (Nat.le_refl _), (Below.refl _ _).alloc (Nat.le_refl _) _⟩
  case round =>
    obtain ⟨k, hk, rfl, hown, hbel⟩ := hrel
    have HOWN : Hid (OwnN .i64 2 wr w.heap.size u5 (weights xs t k)) := hown
    have HBEL : Hid (Below w.heap.size w wr) := hbel
    by_cases hlt : k < xs.length
    · obtain ⟨b, o, rfl, d1⟩ := HC.out k hlt
      have c1 : wr.cell? ⟨b, o + k, none⟩ = _ := (hbel.cell (World.block_lt_of_cell? w _ d1)).trans d1
      have hxk := HX.out.at hlt
      have gk := getD_at hlt
      have p1 : (k : Int) < (xs.length : Int) := by omega
      clear hown hbel d1
      go_wp2
      go_loopw [7, 8] (fun c j wq => ∃ m : Nat, m ≤ xs.length ∧ j = .int .i64 m ∧ c = .int .i64 (wt xs t k m : Nat) ∧ ∃ n, wq = wr.drewN n) (fun _ j _ => xs.length - (intOf j).toNat)
      case atStart => exact ⟨0, by omega, rfl, rfl, 0, rfl⟩
      case round =>
        obtain ⟨m, hm, rfl, rfl, n, rfl⟩ := hrel
        by_cases hlm : m < xs.length
        · by_cases hmk : m = k
          · subst hmk
            have HW : Hid (wt xs t m (m + 1) = wt xs t m m) := by show _ = _; rw [wt, if_pos rfl]
            generalize wt xs t m m = c at *
            go_wp2
            go_roundw
            case rel => exact ⟨m + 1, by omega, by go_num, val_int (by rw [HW.out]), n, rfl⟩
            case measure => simp [intOf]; omega
          · obtain ⟨b', o', hbo, d2⟩ := HC.out m hlm
            have c2 : wr.cell? ⟨b', o' + m, none⟩ = _ := (HBEL.out.cell (World.block_lt_of_cell? w _ d2)).trans d2
            injection hbo with hbo
            injection hbo with e1 e2 _
            subst e1 e2
            have hxm := HX.out.at hlm
            have gm := getD_at hlm
            have HW : Hid (wt xs t k (m + 1) = mul (wt xs t k m) (mul (t ^^^ xs[m]) (inv (xs[k] ^^^ xs[m])))) := by show _ = _; rw [wt, if_neg hmk, gm, gk]
            have hwl := wt_lt xs t k m
            generalize wt xs t k m = c at *
            generalize xs[m] = xm at *
            generalize xs[k] = xk at *
            have x1 := xorN ht hxm
            have x2 := xorN hxk hxm
            have l1 := xor8 ht hxm
            have l2 := xor8 hxk hxm
            generalize t ^^^ xm = q at *
            generalize xk ^^^ xm = p at *
            have l3 := inv_lt l2
            have l4 : mul q (inv p) < 256 := mul_lt l1
            have p2 : (m : Int) < (xs.length : Int) := by omega
            have p3 : ((m : Int) == (k : Int)) = false := by rw [beq_eq_false_iff_ne]; omega
            clear d2 gm gk
            go_wp2_with fail
            go_region_held3 (fun w' => w'.cell? ⟨b, o + m, none⟩ = some (.int .i64 (xm : Nat)) ∧ w'.cell? ⟨b, o + k, none⟩ = some (.int .i64 (xk : Nat))) (go_keep)
              (first
                | (go_at_call 56; refine (l05Inv_any _ _ (by assumption)).mono ?_; rintro e w' ⟨rfl, rfl⟩)
                | (go_at_call 52; refine (l05Mul_any _ _ _ (by assumption) (by assumption)).mono ?_; rintro e w' ⟨rfl, rfl⟩))
            go_wp2
            go_roundw
            case rel => exact ⟨m + 1, by omega, by go_num, val_int (by rw [HW.out]), _, rfl⟩
            case measure => simp [intOf]; omega
        · obtain rfl : m = xs.length := by omega
          have HWS := weights_succ xs t k
          have HLN := weights_len xs t k
          have HL2 := weights_len xs t (k + 1)
          have HO2 : Hid (OwnN .i64 2 (wr.drewN n) w.heap.size u5 (weights xs t k)) := HOWN.out.drewN n
          have HB2 : Hid (Below w.heap.size w (wr.drewN n)) := Sha.bel_drewN HBEL.out n
          have hz := HBEL.out.size
          have HWE : Hid (weights xs t (k + 1) = weights xs t k ++ [wt xs t k xs.length]) := HWS
          clear HWS HOWN HBEL c1 gk
          generalize weights xs t k = l1 at *
          generalize wt xs t k xs.length = c at *
          go_wp2_with (at_builtin; go_loud (refine wp_i64 (by rfl) _ _ (by rfl) w.heap.size (wr.heap.size) u5 l1 c (by rfl) (by rfl) (World.ownsRow.alloc HO2.out _) (size_new hz _) (cell_new _ _ _) (by omega) ?_); intro g cap w1 ho1 hb1 hz1; have HO1 : Hid _ := ho1; have HB1 : Hid _ := hb1; clear ho1 hb1)
          go_roundw
          case rel => exact ⟨k + 1, by omega, by go_num, by rw [HWE.out, ← HLN]; exact HO1.out, ((HB2.out.alloc HB2.out.size _).trans HB1.out)⟩
          case measure => simp [intOf]; omega
    · obtain rfl : k = xs.length := by omega
      have HN : Hid (NumsK .i64 wr u5 (weights xs t xs.length)) := HOWN.out.nums
      clear hown hbel HOWN
      go_wp2
      go_ret
      exact ⟨_, rfl, HN.out, HBEL.out⟩
end Go.Proofs.Ytkanhjafchiikab.Gf
