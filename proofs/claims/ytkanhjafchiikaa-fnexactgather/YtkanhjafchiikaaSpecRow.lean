/- What the model's row of shards is. -/
import Derived.Test.YtkanhjafchiikaaTextsG
import Derived.Test.YtkanhjafchiikaaSpecFrame
import Derived.Deep.QuietTactic
import Derived.BigQuiet
namespace Go.Proofs.Ytkanhjafchiikaa.Srt
open Go.RowKit Go.Proofs.Ytkanhjafchiikaa.Mem Go.Proofs.Ytkanhjafchiikaa.Harn Go.Proofs.Ytkanhjafchiikaa.Gf

theorem bself1 {w : World} (o : Obj) : Below w.heap.size w (w.alloc o) := (Below.refl _ _).alloc (Nat.le_refl _) _
theorem shut {p : Prop} (h : p) : Hid p := h
theorem bstepS {w a : World} (h : Below w.heap.size w a) : Below w.heap.size w a := h
theorem own_base {W : World} {base B g c : Nat} {l : List E} (h : OwnSh W base g c l) (hB : B ≤ base) : OwnSh W B g c l := by
  obtain ⟨h1, h2⟩ := h
  refine ⟨h1, ?_⟩
  rcases h2 with ⟨h0, h2⟩ | ⟨g', cap, cur, e1, e2, e3⟩
  · cases h0
  · exact .inr ⟨g', cap, cur, e1, by omega, e3⟩

set_option maxRecDepth 100000 in
set_option maxHeartbeats 4000000 in
theorem row_any (n m s : Nat) (v : Value) (l : List E) (w : World) (h : Pends w v l) (hl : l.length ≤ 400) (q1 : 1 ≤ n) (q2 : n ≤ 6) (q3 : m ≤ 4) (q4 : 1 ≤ s) (q5 : s ≤ 100) :
    Calls Try.prog 41 #[.int .i64 (n : Nat), .int .i64 (m : Nat), .int .i64 (s : Nat), v] w fun e w' => ∃ u b, e = .returned (.tuple #[u, .bool b]) ∧ (b = true → ∃ r g c, u = .slice (some ⟨g, 0, none⟩) l.length c ∧ r.Perm l ∧ r.Pairwise (fun a b => a.1 < b.1) ∧ Good n m s l ∧ ShAt w' g 0 r ∧ l.length ≤ c) ∧ (b = false → ¬ Good n m s l) ∧ Below w.heap.size w w' := by
  obtain ⟨a, cap, rfl, hc⟩ := h
  have HC : Hid (∀ j (h : j < l.length), ∃ b o, a = some ⟨b, o, none⟩ ∧ w.cell? ⟨b, o + j * 2, none⟩ = some (.int .i64 l[j].1) ∧ w.cell? ⟨b, o + j * 2 + 1, none⟩ = some (.string l[j].2)) := hc
  have HLG : Hid (∀ W, Calls Try.prog 47 #[.int .i64 (n : Nat), .int .i64 (s : Nat)] W fun e w' => e = .returned (.int .i64 (plen n s : Nat)) ∧ w' = W) := fun W => Frm.long_call (by omega) (by omega) (by omega) W
  clear hc
  go_enter Try.func41, Try.ntmps41
  go_wp2
  go_loopw [10, 11] (fun v i wr => ∃ k r g c, k ≤ l.length ∧ i = .int .i64 ((k : Nat) : Int) ∧ v = .slice (some ⟨g, 0, none⟩) k c ∧ OwnSh wr w.heap.size g c r ∧ RowOf n m s l k r ∧ Below w.heap.size w wr) (fun _ i _ => l.length - (intOf i).toNat)
  case atStart => exact ⟨0, [], w.heap.size, 0, by omega, rfl, rfl, ownSh_empty w _ (Nat.le_refl _), rowOf_zero n m s l, bself1 _⟩
  case round =>
    obtain ⟨k, r, g, c, hk, rfl, rfl, hown, hrow, hbel⟩ := hrel
    have HOWN : Hid (OwnSh wr w.heap.size g c r) := hown
    have HROW : Hid (RowOf n m s l k r) := hrow
    have HBEL : Hid (Below w.heap.size w wr) := hbel
    have hrl : r.length = k := hrow.len hk
    have hcap := hown.cap
    rw [hrl] at hcap
    have hg := hown.lt.2
    generalize wr = wa at *
    clear hown hrow
    by_cases hlt : k < l.length
    · obtain ⟨b, o, rfl, d1, d2⟩ := HC.out k hlt
      have c1 : wa.cell? ⟨b, o + k * 2, none⟩ = _ := Sha.bel_cell hbel d1
      have c2 : wa.cell? ⟨b, o + k * 2 + 1, none⟩ = _ := Sha.bel_cell hbel d2
      obtain ⟨x, hx⟩ : ∃ x, x = l[k].1 := ⟨_, rfl⟩
      obtain ⟨t, ht⟩ : ∃ t, t = l[k].2 := ⟨_, rfl⟩
      rw [← hx] at c1
      rw [← ht] at c2
      have hokx : okS n m s l[k] = (isB x 0 ((n : Int) + m - 1) && decide (t.size = plen n s)) := by
        rw [hx, ht]; unfold okS isB
        rw [Bool.eq_iff_iff]
        simp only [Bool.and_eq_true, decide_eq_true_eq]
        omega
      have HX1 : Hid (l[k].1 = x) := hx.symm
      have HX2 : Hid (l[k].2 = t) := ht.symm
      have HL1 : Hid (∀ e : E, e = l[k] → e = (x, t)) := fun e he => by rw [he, hx, ht]
      have p1 : (k : Int) < (l.length : Int) := by omega
      have hLL := plen_small (need := n) (size := s) (by omega)
      clear d1 d2 hbel hx ht
      by_cases b1 : isB x 0 ((n : Int) + m - 1) = true
      · by_cases b2 : t.size = plen n s
        · have HOKX : Hid (okS n m s l[k] = true) := by show _ = _; rw [hokx, b1, b2]; simp
          have H1 : Hid _ := fun W => Frm.isB_call b1 W
          have e1 : (((t.size : Nat) : Int) != ((plen n s : Nat) : Int)) = false := by rw [b2]; simp
          have e2 : (((t.size : Nat) : Int) == ((plen n s : Nat) : Int)) = true := by rw [b2]; simp
          generalize plen n s = L at *
          clear hokx b1 b2
          go_wp2_with fail
          go_quiet ((first | (go_at_call 46; exact Calls.quiet_of_same (H1.out _)) | (go_at_call 47; exact Calls.quiet_of_same (HLG.out _))))
          clear e1 e2
          go_wp2
          go_loopw [13] (fun kv wq => ∃ j : Nat, j ≤ k ∧ kv = .int .i64 j ∧ (∀ i (_ : i < j) (h : i < r.length), r[i].1 < l[k].1) ∧ ∃ nd, wq = (wa.alloc (.cells #[.int .i64 x, .string t] 36)).drewN nd) (fun kv _ => k - (intOf kv).toNat)
          case atStart => exact ⟨0, by omega, rfl, fun i hi => by omega, _, rfl⟩
          case round =>
            obtain ⟨j, hj, rfl, hlo, nd, rfl⟩ := hrel
            have HLO : Hid (∀ i (_ : i < j) (h : i < r.length), r[i].1 < l[k].1) := hlo
            clear hlo c1 c2
            by_cases hjk : j < k
            · have c3 : wa.cell? ⟨g, j * 2, none⟩ = some (.int .i64 (r[j]'(by omega)).1) := by
                have := (PendsAt.sh (OwnSh.at HOWN.out) j (by omega)).1
                rwa [Nat.zero_add] at this
              obtain ⟨y, hy⟩ : ∃ y, y = (r[j]'(by omega)).1 := ⟨_, rfl⟩
              rw [← hy] at c3
              have HY : Hid (y = (r[j]'(by omega)).1) := hy
              have p2 : (j : Int) < (k : Int) := by omega
              have p3 : decide ((j : Int) < (k : Int)) = true := decide_eq_true p2
              have p0 : (0 : Int) ≤ (j : Int) := by omega
              clear hy
              by_cases hyx : y < x
              · have p4 : decide (y < x) = true := decide_eq_true hyx
                go_wp2_with fail
                go_quiet (fail)
                go_wp2
                refine ⟨⟨j + 1, by omega, by go_num, fun i hi hir => ?_, _, rfl⟩, by simp [intOf]; omega⟩
                rcases Nat.lt_or_ge i j with h | h
                · exact HLO.out i h hir
                · obtain rfl : i = j := by omega
                  rw [← HY.out, HX1.out]; exact hyx
              · have p4 : decide (y < x) = false := decide_eq_false hyx
                by_cases hyy : y = x
                · have HBAD : Hid (¬ Good n m s l) := bad_same HROW.out hlt (k := j) (by omega) (by rw [← HY.out, HX1.out]; exact hyy)
                  have e3 : (y == x) = true := by simp [hyy]
                  clear hyy
                  go_wp2_with fail
                  go_quiet (fail)
                  go_wp2_with fail
                  go_quiet (fail)
                  go_wp2
                  exact bodyPost_ret (v := .tuple #[.slice (some ⟨g, 0, none⟩) k c, .bool false]) (by simp [results, Try.results41, go_sem]) rfl ⟨_, false, rfl, fun h => (by cases h), fun _ => HBAD.out, Sha.bel_drewN (Sha.bel_drewN (Sha.bel_drewN (HBEL.out.alloc HBEL.out.size _) _) _) _⟩
                · have e3 : (y == x) = false := by simp [hyy]
                  have HHI : Hid (∀ h : j < r.length, l[k].1 < r[j].1) := fun h => by rw [← HY.out, HX1.out]; omega
                  clear hyy
                  go_wp2_with fail
                  go_quiet (fail)
                  generalize nq = n1 at *
                  go_wp2_with fail
                  go_quiet (fail)
                  have htk : (r.take j).length = j := by rw [List.length_take, hrl]; omega
                  have htd : (r.drop j).length = k - j := by rw [List.length_drop, hrl]
                  have HTK : Hid ((r.take j).length = j) := htk
                  have HTD : Hid ((r.drop j).length = k - j) := htd
                  have HNX : Hid (RowOf n m s l (k + 1) (r.take j ++ [l[k]] ++ r.drop j)) := RowOf.next HROW.out hlt HOKX.out (by omega) HLO.out HHI.out
                  have HXT : Hid (l[k] = (x, t)) := Prod.ext HX1.out HX2.out
                  have hsl := slice_shards' g 0 j k c (by omega) hcap (j : Int) rfl
                  obtain ⟨ad, HAD, hsf⟩ := slice_from g j k c (by omega) hcap (j : Int) rfl
                  have HADH : Hid (k - j ≠ 0 → ad = some ⟨g, j * 2, none⟩) := HAD
                  obtain ⟨W2, hW2⟩ : ∃ W2, W2 = (((wa.alloc (.cells #[.int .i64 x, .string t] 36)).drewN nd).drewN n1).drewN nq := ⟨_, rfl⟩
                  have hbw : Below wa.heap.size wa W2 := by rw [hW2]; exact Sha.bel_drewN (Sha.bel_drewN (Sha.bel_drewN (bself1 _) nd) n1) nq
                  have HSX : Hid (ShAt W2 wa.heap.size 0 [(x, t)]) := by rw [hW2]; exact sh_new wa x t _ rfl
                  have HOW2 : Hid (OwnSh W2 w.heap.size g c r) := HOWN.out.below hbw
                  have HBW2 : Hid (Below w.heap.size w W2) := bstep HBEL.out hbw
                  have hzx : wa.heap.size < W2.heap.size := by rw [hW2]; show _ < (World.heap _).size; simp
                  have hzw : w.heap.size ≤ W2.heap.size := HBW2.out.size
                  have HG2 : Hid (g < W2.heap.size) := (HOW2.out.lt).2
                  have hj6 : (j : Int) ≤ 2000 := by omega
                  clear htk htd HAD hbw
                  rw [← hW2]
                  clear hW2
                  go_wp2_with (first
                    | (at_builtin; refine wp_sh (by rfl) _ _ (by rfl) W2.heap.size g2 c2 (([] ++ r.take j) ++ [(x, t)]) (r.drop j) ad g (j * 2) (k - j) (c - j) (j + 1) (k + 1) (by simp [HTK.out]) (by omega) (by rfl) (by rfl) HTD.out HADH.out HO2.out HZ2.out ((((PendsAt.sh (OwnSh.at HOW2.out)).drop j).below (bstepS HV2.out)) ) (by simp [HTK.out, HTD.out]; omega) ?_; intro g3 c3 v3 ho3 hb3 hz3; have HO3 := shut ho3; have HV3 : Hid (Below W2.heap.size W2 v3) := HV2.out.trans hb3; clear ho3 hb3 hz3)
                    | (at_builtin; refine wp_sh (by rfl) _ _ (by rfl) W2.heap.size g1 c1 ([] ++ r.take j) [(x, t)] _ v1.heap.size 0 1 1 j (j + 1) (by simp [HTK.out]) (by omega) (by rfl) (by rfl) rfl (fun _ => rfl) (HO1.out.below (bself1 _)) (size_new HZ1.out _) (sh_new v1 x t _ rfl) (by simp [HTK.out]; omega) ?_; intro g2 c2 v2 ho2 hb2 hz2; have HO2 := shut ho2; have HV2 : Hid (Below W2.heap.size W2 v2) := (HV1.out.alloc HZ1.out _).trans hb2; have HZ2 : Hid (W2.heap.size ≤ v2.heap.size) := HV2.out.size; clear ho2 hb2 hz2)
                    | (at_builtin; refine wp_sh (by rfl) _ _ (by rfl) W2.heap.size W2.heap.size 0 [] (r.take j) _ g 0 j c 0 j rfl (by omega) (by rfl) (by rfl) HTK.out (fun _ => rfl) (ownSh_empty W2 _ (Nat.le_refl _)) (size_new (Nat.le_refl _) _) ((((PendsAt.sh (OwnSh.at HOW2.out)).take j).below (bself1 _))) (by simp [HTK.out]; omega) ?_; intro g1 c1 v1 ho1 hb1 hz1; have HO1 := shut ho1; have HV1 : Hid (Below W2.heap.size W2 v1) := (bself1 _).trans hb1; have HZ1 : Hid (W2.heap.size ≤ v1.heap.size) := HV1.out.size; have hx0 : v1.cell? ⟨wa.heap.size, 0, none⟩ = some (.int .i64 x) := Sha.bel_cell HV1.out (HSX.out 0 (by simp)).1; have hx1 : v1.cell? ⟨wa.heap.size, 1, none⟩ = some (.string t) := Sha.bel_cell HV1.out (HSX.out 0 (by simp)).2; clear ho1 hb1 hz1))
                  go_roundw
                  case rel => exact ⟨k + 1, r.take j ++ [l[k]] ++ r.drop j, g3, c3, by omega, by go_num, rfl, by rw [HXT.out]; exact own_base (by simpa using HO3.out) hzw, HNX.out, HBW2.out.trans (HV3.out.mono hzw)⟩
                  case measure => simp [intOf]; omega
            · have p2 : ¬ (j : Int) < (k : Int) := by omega
              have p3 : decide ((j : Int) < (k : Int)) = false := decide_eq_false p2
              have HHI : Hid (∀ h : j < r.length, l[k].1 < r[j].1) := fun h => by omega
              go_wp2_with fail
              go_quiet (fail)
              generalize nq = n1 at *
              go_wp2_with fail
              go_quiet (fail)
              have htk : (r.take j).length = j := by rw [List.length_take, hrl]; omega
              have htd : (r.drop j).length = k - j := by rw [List.length_drop, hrl]
              have HTK : Hid ((r.take j).length = j) := htk
              have HTD : Hid ((r.drop j).length = k - j) := htd
              have HNX : Hid (RowOf n m s l (k + 1) (r.take j ++ [l[k]] ++ r.drop j)) := RowOf.next HROW.out hlt HOKX.out (by omega) HLO.out HHI.out
              have HXT : Hid (l[k] = (x, t)) := Prod.ext HX1.out HX2.out
              have hsl := slice_shards' g 0 j k c (by omega) hcap (j : Int) rfl
              obtain ⟨ad, HAD, hsf⟩ := slice_from g j k c (by omega) hcap (j : Int) rfl
              have HADH : Hid (k - j ≠ 0 → ad = some ⟨g, j * 2, none⟩) := HAD
              obtain ⟨W2, hW2⟩ : ∃ W2, W2 = (((wa.alloc (.cells #[.int .i64 x, .string t] 36)).drewN nd).drewN n1).drewN nq := ⟨_, rfl⟩
              have hbw : Below wa.heap.size wa W2 := by rw [hW2]; exact Sha.bel_drewN (Sha.bel_drewN (Sha.bel_drewN (bself1 _) nd) n1) nq
              have HSX : Hid (ShAt W2 wa.heap.size 0 [(x, t)]) := by rw [hW2]; exact sh_new wa x t _ rfl
              have HOW2 : Hid (OwnSh W2 w.heap.size g c r) := HOWN.out.below hbw
              have HBW2 : Hid (Below w.heap.size w W2) := bstep HBEL.out hbw
              have hzx : wa.heap.size < W2.heap.size := by rw [hW2]; show _ < (World.heap _).size; simp
              have hzw : w.heap.size ≤ W2.heap.size := HBW2.out.size
              have HG2 : Hid (g < W2.heap.size) := (HOW2.out.lt).2
              have hj6 : (j : Int) ≤ 2000 := by omega
              clear htk htd HAD hbw
              rw [← hW2]
              clear hW2
              go_wp2_with (first
                | (at_builtin; refine wp_sh (by rfl) _ _ (by rfl) W2.heap.size g2 c2 (([] ++ r.take j) ++ [(x, t)]) (r.drop j) ad g (j * 2) (k - j) (c - j) (j + 1) (k + 1) (by simp [HTK.out]) (by omega) (by rfl) (by rfl) HTD.out HADH.out HO2.out HZ2.out ((((PendsAt.sh (OwnSh.at HOW2.out)).drop j).below (bstepS HV2.out)) ) (by simp [HTK.out, HTD.out]; omega) ?_; intro g3 c3 v3 ho3 hb3 hz3; have HO3 := shut ho3; have HV3 : Hid (Below W2.heap.size W2 v3) := HV2.out.trans hb3; clear ho3 hb3 hz3)
                | (at_builtin; refine wp_sh (by rfl) _ _ (by rfl) W2.heap.size g1 c1 ([] ++ r.take j) [(x, t)] _ v1.heap.size 0 1 1 j (j + 1) (by simp [HTK.out]) (by omega) (by rfl) (by rfl) rfl (fun _ => rfl) (HO1.out.below (bself1 _)) (size_new HZ1.out _) (sh_new v1 x t _ rfl) (by simp [HTK.out]; omega) ?_; intro g2 c2 v2 ho2 hb2 hz2; have HO2 := shut ho2; have HV2 : Hid (Below W2.heap.size W2 v2) := (HV1.out.alloc HZ1.out _).trans hb2; have HZ2 : Hid (W2.heap.size ≤ v2.heap.size) := HV2.out.size; clear ho2 hb2 hz2)
                | (at_builtin; refine wp_sh (by rfl) _ _ (by rfl) W2.heap.size W2.heap.size 0 [] (r.take j) _ g 0 j c 0 j rfl (by omega) (by rfl) (by rfl) HTK.out (fun _ => rfl) (ownSh_empty W2 _ (Nat.le_refl _)) (size_new (Nat.le_refl _) _) ((((PendsAt.sh (OwnSh.at HOW2.out)).take j).below (bself1 _))) (by simp [HTK.out]; omega) ?_; intro g1 c1 v1 ho1 hb1 hz1; have HO1 := shut ho1; have HV1 : Hid (Below W2.heap.size W2 v1) := (bself1 _).trans hb1; have HZ1 : Hid (W2.heap.size ≤ v1.heap.size) := HV1.out.size; have hx0 : v1.cell? ⟨wa.heap.size, 0, none⟩ = some (.int .i64 x) := Sha.bel_cell HV1.out (HSX.out 0 (by simp)).1; have hx1 : v1.cell? ⟨wa.heap.size, 1, none⟩ = some (.string t) := Sha.bel_cell HV1.out (HSX.out 0 (by simp)).2; clear ho1 hb1 hz1))
              go_roundw
              case rel => exact ⟨k + 1, r.take j ++ [l[k]] ++ r.drop j, g3, c3, by omega, by go_num, rfl, by rw [HXT.out]; exact own_base (by simpa using HO3.out) hzw, HNX.out, HBW2.out.trans (HV3.out.mono hzw)⟩
              case measure => simp [intOf]; omega
        · have HBAD : Hid (¬ Good n m s l) := bad_ok hlt (by rw [hokx, decide_eq_false b2]; simp)
          have H1 : Hid _ := fun W => Frm.isB_call b1 W
          have e1 : (((t.size : Nat) : Int) != ((plen n s : Nat) : Int)) = true := by rw [bne_iff_ne]; omega
          have e2 : (((t.size : Nat) : Int) == ((plen n s : Nat) : Int)) = false := by rw [beq_eq_false_iff_ne]; omega
          generalize plen n s = L at *
          clear hokx b1 b2
          go_wp2_with fail
          go_quiet ((first | (go_at_call 46; exact Calls.quiet_of_same (H1.out _)) | (go_at_call 47; exact Calls.quiet_of_same (HLG.out _))))
          go_wp2
          exact bodyPost_ret (v := .tuple #[.slice (some ⟨g, 0, none⟩) k c, .bool false]) (by simp [results, Try.results41, go_sem]) rfl ⟨_, false, rfl, fun h => (by cases h), fun _ => HBAD.out, Sha.bel_drewN (HBEL.out.alloc HBEL.out.size _) _⟩
      · have b1' : isB x 0 ((n : Int) + m - 1) = false := by simpa using b1
        have HBAD : Hid (¬ Good n m s l) := bad_ok hlt (by rw [hokx, b1']; simp)
        have H1 : Hid _ := fun W => Frm.isB_call b1' W
        clear hokx b1 b1'
        go_wp2_with fail
        go_quiet ((go_at_call 46; exact Calls.quiet_of_same (H1.out _)))
        go_wp2
        exact bodyPost_ret (v := .tuple #[.slice (some ⟨g, 0, none⟩) k c, .bool false]) (by simp [results, Try.results41, go_sem]) rfl ⟨_, false, rfl, fun h => (by cases h), fun _ => HBAD.out, Sha.bel_drewN (HBEL.out.alloc HBEL.out.size _) _⟩
    · obtain rfl : k = l.length := by omega
      obtain ⟨z1, z2, z3⟩ := RowOf.all HROW.out
      have HZ1 : Hid (r.Perm l) := z1
      have HZ2 : Hid (r.Pairwise (fun a b => a.1 < b.1)) := z2
      have HZ3 : Hid (Good n m s l) := z3
      have HSH : Hid (ShAt wa g 0 r) := PendsAt.sh (OwnSh.at HOWN.out)
      clear z1 z2 z3
      go_wp2
      exact bodyPost_ret (v := .tuple #[.slice (some ⟨g, 0, none⟩) l.length c, .bool true]) (by simp [results, Try.results41, go_sem]) rfl ⟨_, true, rfl, fun _ => ⟨r, g, c, rfl, HZ1.out, HZ2.out, HZ3.out, HSH.out, hcap⟩, fun h => (by cases h), HBEL.out⟩
end Go.Proofs.Ytkanhjafchiikaa.Srt
