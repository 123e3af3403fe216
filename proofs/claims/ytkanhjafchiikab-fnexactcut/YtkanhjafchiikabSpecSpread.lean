/- What the model's Spread answers. -/
import Derived.Test.YtkanhjafchiikabSpecMixS
namespace Go.Proofs.Ytkanhjafchiikab.Gf
open Go.RowKit Go.Proofs.Ytkanhjafchiikab.Mem Go.Proofs.Ytkanhjafchiikab.Harn

set_option maxRecDepth 100000 in
set_option maxHeartbeats 1000000 in
theorem specFirst_any (n : Nat) (w : World) (hn : n ≤ 100) :
    Calls Try.prog 38 #[.int .i64 (n : Nat)] w fun e w' => ∃ u, e = .returned u ∧ NumsK .i64 w' u (List.range n) ∧ Below w.heap.size w w' := by
  go_enter Try.func38, Try.ntmps38
  go_wp2
  go_loopw [3, 4] (fun v i wr => ∃ k : Nat, k ≤ n ∧ i = .int .i64 k ∧ OwnN .i64 2 wr w.heap.size v (List.range k) ∧ Below w.heap.size w wr) (fun _ i _ => n - (intOf i).toNat)
  case atStart => exact ⟨0, by omega, rfl, ownN_empty _ _ _ _ (Nat.le_refl _), (Below.refl _ _).alloc (Nat.le_refl _) _⟩
  case round =>
    obtain ⟨k, hk, rfl, hown, hbel⟩ := hrel
    have HOWN : Hid (OwnN .i64 2 wr w.heap.size u3 (List.range k)) := hown
    have HBEL : Hid (Below w.heap.size w wr) := hbel
    have hz := hbel.size
    by_cases hlt : k < n
    · have HE : Hid (List.range (k + 1) = List.range k ++ [k]) := List.range_succ
      have HLN : Hid ((List.range k).length = k) := List.length_range
      generalize List.range k = l at *
      clear hown hbel
      go_wp2_with (at_builtin; refine wp_i64 (by rfl) _ _ (by rfl) w.heap.size (wr.heap.size) u3 l k (by rfl) (by rfl) (World.ownsRow.alloc HOWN.out _) (size_new hz _) (cell_new _ _ _) (by have := HLN.out; omega) ?_; intro g cap w1 ho1 hb1 hz1; have HO1 : Hid _ := ho1; have HB1 : Hid _ := hb1; clear ho1 hb1)
      go_roundw
      case rel => exact ⟨k + 1, by omega, by go_num, by rw [HE.out]; exact HO1.out, ((HBEL.out.alloc HBEL.out.size _).trans HB1.out)⟩
      case measure => simp [intOf]; omega
    · obtain rfl : k = n := by omega
      have HN : Hid (NumsK .i64 wr u3 (List.range k)) := HOWN.out.nums
      clear hown hbel HOWN
      go_wp2
      go_ret
      exact ⟨_, rfl, HN.out, HBEL.out⟩

theorem ownS_of_app {W : World} {base g cap n : Nat} {ls : List ByteArray} (h : W.ownsRow base 9 1 (.slice (some ⟨g, 0, none⟩) n cap) n (ls.map Value.string)) (hn : n = ls.length) : OwnS W base (.slice (some ⟨g, 0, none⟩) n cap) ls := by
  subst hn
  unfold OwnS OwnV
  simpa using h
/-- 'append([]string{}, l...)' of at least one text -/
theorem copy_strs (ty : TypeId) (g0 : Nat) (v : Value) (ls : List ByteArray) (W : World) (h : Strs W v ls) (h0 : 0 < ls.length) (hn : ls.length ≤ 1100000) :
    ∃ g cap W1, (Builtin.append_ #[22, 22] ty #[.slice (some ⟨g0, 0, none⟩) 0 0, v]).run Try.prog W = .ok (.slice (some ⟨g, 0, none⟩) ls.length cap) W1 ∧ OwnS W1 W.heap.size (.slice (some ⟨g, 0, none⟩) ls.length cap) ls ∧ Below W.heap.size W W1 := by
  obtain ⟨a, c, rfl, hc⟩ := h
  obtain ⟨b, o, rfl, _⟩ := hc 0 (by omega)
  obtain ⟨g, cap, W1, hr, h1, h2, h3, h4, h5, h6⟩ := app_new (P := Try.prog) 22 ty 9 (.string ByteArray.empty) 1 16 underStrs infoStr rfl (by omega) ⟨g0, 0, none⟩ ⟨b, o, none⟩ ls.length c (ls.map Value.string) W (by simp) (fun j u hu => by
    rw [List.getElem?_map] at hu
    cases e : ls[j]? with
    | none => rw [e] at hu; cases hu
    | some t =>
      rw [e] at hu
      obtain ⟨hj, ht⟩ := List.getElem?_eq_some_iff.1 e
      obtain ⟨b', o', hbo, hcell⟩ := hc j hj
      injection hbo with hbo
      injection hbo with e1 e2 _
      subst e1 e2
      have hadd : (⟨b, o, none⟩ : Addr).add j = ⟨b, o + j, none⟩ := by unfold Addr.add; split <;> simp_all
      rw [hadd, hcell, ht]
      simpa using hu) (by omega) (by unfold maxLen; omega) (by omega)
  exact ⟨g, cap, W1, hr, ownS_of_app h6 rfl, h3⟩

/-- the further pieces of texts, as texts -/
def restS (ls : List ByteArray) (need L k : Nat) : List ByteArray := ls ++ (rests (ls.map nb) need L k).map toB
theorem restS_zero (ls : List ByteArray) (need L : Nat) : restS ls need L 0 = ls := by simp [restS, rests]
theorem restS_succ (ls : List ByteArray) (need L k : Nat) : restS ls need L (k + 1) = restS ls need L k ++ [toB (rest1 (ls.map nb) need L k)] := by simp [restS, rests_succ]
theorem restS_len (ls : List ByteArray) (need L k : Nat) : (restS ls need L k).length = ls.length + k := by simp [restS, rests]

set_option maxRecDepth 100000 in
set_option maxHeartbeats 1000000 in
theorem specRest_any (vl : Value) (ls : List ByteArray) (need more L : Nat) (w : World) (hl : Strs w vl ls) (h1 : 0 < need) (h2 : ls.length = need) (hn : need ≤ 20) (hm : more ≤ 20) (hL : ∀ s ∈ ls, s.size = L) (hLn : L ≤ 1000) :
    Calls Try.prog 22 #[vl, .int .i64 (need : Nat), .int .i64 (more : Nat)] w fun e w' => ∃ g cap, e = .returned (.slice (some ⟨g, 0, none⟩) (need + more) cap) ∧ OwnS w' w.heap.size (.slice (some ⟨g, 0, none⟩) (need + more) cap) (restS ls need L more) ∧ Below w.heap.size w w' := by
  have HST : Hid (Strs w vl ls) := hl
  obtain ⟨a, cap, rfl, _⟩ := hl
  have HLN : Hid (ls.length = need) := h2
  have HSZ : Hid (∀ s ∈ ls, s.size = L) := hL
  have HB0 : Hid (∀ o, Below w.heap.size w (w.alloc o)) := fun o => balloc (Below.refl _ _) o
  obtain ⟨g, cap1, w1, hr, ho, hb⟩ := copy_strs 22 w.heap.size _ ls (w.alloc (.cells #[] 9)) (Strs.below HST.out (HB0.out _)) (by omega) (by omega)
  have HO1 : Hid (OwnS w1 w.heap.size (.slice (some ⟨g, 0, none⟩) ls.length cap1) ls) := OwnV.same ho (fun _ _ => rfl) (by simp)
  have HB1 : Hid (Below w.heap.size w w1) := (HB0.out _).trans (hb.mono (by simp))
  clear ho hb h2 hL
  go_enter Try.func22, Try.ntmps22
  go_wp2_with (at_builtin; refine wp_app1 (by rfl) _ _ _ (by rfl) _ _ _ _ (by rfl) (by rfl) hr ?_)
  go_loopw [7, 8] (fun v i wr => ∃ k g cap : Nat, k ≤ more ∧ i = .int .i64 k ∧ v = .slice (some ⟨g, 0, none⟩) (need + k) cap ∧ OwnS wr w.heap.size v (restS ls need L k) ∧ Below w.heap.size w wr) (fun _ i _ => more - (intOf i).toNat)
  case atStart => exact ⟨0, g, cap1, by omega, rfl, by rw [HLN.out]; rfl, by rw [restS_zero]; exact HO1.out, HB1.out⟩
  case round =>
    obtain ⟨k, g', cap', hk, rfl, rfl, hown, hbel⟩ := hrel
    have HOWN : Hid (OwnS wr w.heap.size (.slice (some ⟨g', 0, none⟩) (need + k) cap') (restS ls need L k)) := hown
    have HBEL : Hid (Below w.heap.size w wr) := hbel
    clear HO1 HB1 hown hbel hr
    by_cases hlt : k < more
    · have HRS : Hid (restS ls need L (k + 1) = restS ls need L k ++ [toB (rest1 (ls.map nb) need L k)]) := restS_succ ls need L k
      have HRL : Hid ((restS ls need L k).length = need + k) := by show _ = _; rw [restS_len, HLN.out]
      have HR1 : Hid (rest1 (ls.map nb) need L k = mixed (weight (List.range need) (need + k)) (ls.map nb) L) := rfl
      go_wp2_with fail
      refine (specFirst_any need _ (by omega)).mono ?_
      rintro e w2 ⟨u, rfl, hnu, hb2⟩
      have HB2 : Hid (Below wr.heap.size wr w2) := hb2
      obtain ⟨au, cu, hu⟩ := hnu.shape
      rw [List.length_range] at hu
      subst hu
      have HNU : Hid (NumsK .i64 w2 (.slice au need cu) (List.range need)) := hnu
      clear hnu hb2
      go_wp2_with fail
      have e1 : ((need : Int) + (k : Int)) = ((need + k : Nat) : Int) := by push_cast; rfl
      rw [e1]
      refine (specMix_any _ _ (List.range need) ls (need + k) L _ HNU.out (Strs.below (Strs.below HST.out HBEL.out) (HB2.out)) (range_els (by omega)) (by omega) (by simp; omega) (by rw [HLN.out]; simp) (by simp; omega) HSZ.out hLn).mono ?_
      rintro e w3 ⟨rfl, hb3⟩
      rw [← HR1.out]
      have hb13 : Below wr.heap.size wr w3 := bstep HB2.out hb3
      have HB3 : Hid (Below w.heap.size w w3) := bstep HBEL.out hb13
      have HO3 : Hid (OwnS w3 w.heap.size (.slice (some ⟨g', 0, none⟩) (need + k) cap') (restS ls need L k)) := OwnS.below HOWN.out hb13 (Nat.le_refl _)
      have hz3 := HB3.out.size
      generalize toB (rest1 (ls.map nb) need L k) = y at *
      have HLL : Hid (∀ g cap w', OwnS w' w.heap.size (.slice (some ⟨g, 0, none⟩) ((restS ls need L k).length + 1) cap) (restS ls need L k ++ [y]) → OwnS w' w.heap.size (.slice (some ⟨g, 0, none⟩) (need + (k + 1)) cap) (restS ls need L (k + 1))) := fun g cap w' h => by
        rw [HRS.out]; rw [HRL.out] at h; exact h
      clear hb3 hb13 e1
      go_wp2_with (at_builtin; refine wp_str (by rfl) _ _ (by rfl) w.heap.size w3.heap.size (.slice (some ⟨g', 0, none⟩) (need + k) cap') (restS ls need L k) y (by rfl) (by rfl) (OwnS.alloc HO3.out _) (size_new hz3 _) (cell_new _ _ _) (by have := HRL.out; omega) ?_; rw [HRL.out]; intro g4 cap4 w4 ho4 hb4 hz4; have HO4 : Hid _ := ho4; have HB4 : Hid _ := hb4; clear ho4 hb4)
      go_roundw
      case rel => exact ⟨k + 1, g4, cap4, by omega, by go_num, rfl, HLL.out _ _ _ (by rw [HRL.out]; exact HO4.out), ((HB3.out.alloc HB3.out.size _).trans HB4.out)⟩
      case measure => simp [intOf]; omega
    · obtain rfl : k = more := by omega
      go_wp2
      go_ret
      exact ⟨_, _, rfl, HOWN.out, HBEL.out⟩
end Go.Proofs.Ytkanhjafchiikab.Gf
