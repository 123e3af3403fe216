/- What the model's sum of texts answers. -/
import Derived.Test.YtkanhjafchiikaaTextsD
import Derived.Test.YtkanhjafchiikaaTextsC
import Derived.Test.YtkanhjafchiikaaImplMixB
namespace Go.Proofs.Ytkanhjafchiikaa.Gf
open Go.RowKit Go.Proofs.Ytkanhjafchiikaa.Mem Go.Proofs.Ytkanhjafchiikaa.Harn

theorem ret_strS {a b : ByteArray} (h : a = b) : Ending.returned (.string a) = .returned (.string b) := by rw [h]
/-- a row of L sums, of which the first k are reckoned -/
def sumRow (c : Nat → Nat) (ps : List (List Nat)) (L k : Nat) : List Nat := (List.range L).map fun j => if j < k then mixAt c ps j ps.length else 0
theorem sumRow_start (c : Nat → Nat) (ps : List (List Nat)) (L : Nat) : ncells .u8 (sumRow c ps L 0) = List.replicate L (.int .u8 0) := by
  apply List.ext_getElem
  · simp [ncells, sumRow]
  · intro j h1 h2; simp [ncells, sumRow]
theorem sumRow_end (c : Nat → Nat) (ps : List (List Nat)) (L : Nat) : sumRow c ps L L = mixed c ps L := by
  unfold sumRow mixed
  apply List.map_congr_left
  intro j hj
  have : j < L := by simpa using hj
  simp [this]
theorem sumRow_at (c : Nat → Nat) (ps : List (List Nat)) (L k : Nat) (h : k < L) : (ncells .u8 (sumRow c ps L k))[k]? = some (.int .u8 0) := by
  simp [ncells, sumRow, h]
theorem sumRow_set (c : Nat → Nat) (ps : List (List Nat)) (L k : Nat) : (ncells .u8 (sumRow c ps L k)).set k (.int .u8 (mixAt c ps k ps.length : Nat)) = ncells .u8 (sumRow c ps L (k + 1)) := by
  apply List.ext_getElem
  · simp [ncells, sumRow]
  · intro j h1 h2
    by_cases e : k = j
    · subst e; simp [ncells, sumRow]
    · rw [List.getElem_set_ne e]
      by_cases e2 : j < k
      · have : j < k + 1 := by omega
        simp [ncells, sumRow, e2, this]
      · have : ¬ j < k + 1 := by omega
        simp [ncells, sumRow, e2, this]
theorem ncells_u8 (l : List Nat) (h : Els l) : ncells .u8 l = Lib.byteCells (l.map UInt8.ofNat) := by
  unfold ncells Lib.byteCells
  rw [List.map_map]
  apply List.map_congr_left
  intro x hx
  have := h x hx
  simp; omega
theorem mixAt_str (c : Nat → Nat) (ls : List ByteArray) (k i : Nat) (hi : i < ls.length) (hk : k < ls[i].size) : mixAt c (ls.map nb) k (i + 1) = mixAt c (ls.map nb) k i ^^^ mul (c i) (ls[i][k]).toNat := by
  rw [mixAt_succ _ _ _ _ (by simpa using hi) (by simpa [nb_len] using hk)]
  simp only [List.getElem_map, nb_at _ _ hk]

set_option maxRecDepth 100000 in
set_option maxHeartbeats 1000000 in
theorem specMix_any (vx vl : Value) (xs : List Nat) (ls : List ByteArray) (t L : Nat) (w : World) (hxn : NumsK .i64 w vx xs) (hl : Strs w vl ls) (hx : Els xs) (ht : t < 256) (h1 : 0 < xs.length) (h2 : ls.length = xs.length) (hn : xs.length ≤ 1000) (hL : ∀ s ∈ ls, s.size = L) (hLn : L ≤ 1000) :
    Calls Try.prog 65 #[vx, vl, .int .i64 (t : Nat)] w fun e w' => e = .returned (.string (toB (mixed (weight xs t) (ls.map nb) L))) ∧ Below w.heap.size w w' := by
  have HWK : Hid (Calls Try.prog 78 #[vx, .int .i64 (t : Nat)] w fun e w' => ∃ u, e = .returned u ∧ NumsK .i64 w' u (weights xs t xs.length) ∧ Below w.heap.size w w') := specWeights_any vx xs t w hxn hx ht hn
  have HWA : Hid (∀ i (h : i < (weights xs t xs.length).length), (weights xs t xs.length)[i] = weight xs t i) := fun i h => weights_at _ _ _ _ h
  have HWN : Hid ((weights xs t xs.length).length = xs.length) := weights_len _ _ _
  have HWL : Hid (∀ i, weight xs t i < 256) := weight_lt xs t
  generalize weights xs t xs.length = ws at *
  generalize weight xs t = wf at *
  obtain ⟨a1, cap1, rfl⟩ := hxn.shape
  obtain ⟨a2, cap2, rfl, hc2⟩ := hl
  have HC2 : Hid (∀ j (h : j < ls.length), ∃ b o, a2 = some ⟨b, o, none⟩ ∧ w.cell? ⟨b, o + j, none⟩ = some (.string ls[j])) := hc2
  have HSZ : Hid (∀ j (h : j < ls.length), ls[j].size = L) := fun j h => hL _ (List.getElem_mem h)
  have HN : Hid (ls.length = xs.length) := h2
  obtain ⟨b, o, rfl, d0⟩ := hc2 0 (by omega)
  rw [Nat.add_zero] at d0
  have hs0 : ls[0].size = L := hL _ (List.getElem_mem (by omega))
  have p0 : (0 : Int) < (ls.length : Int) := by omega
  generalize ls[0] = s0 at *
  clear hc2 h2 hL hx hxn ht
  go_enter Try.func65, Try.ntmps65
  go_wp2_with fail
  refine HWK.out.mono ?_
  rintro e w1 ⟨u, rfl, hnu, hb1⟩
  have HB1 : Hid (Below w.heap.size w w1) := hb1
  obtain ⟨a3, cap3, rfl, hc3⟩ := hnu
  have HC3 : Hid (∀ j (h : j < ws.length), ∃ b o, a3 = some ⟨b, o, none⟩ ∧ w1.cell? ⟨b, o + j, none⟩ = some (.int .i64 (ws[j] : Nat))) := hc3
  have c0 : w1.cell? ⟨b, o, none⟩ = _ := (hb1.cell (World.block_lt_of_cell? w _ d0)).trans d0
  obtain ⟨W1, hmk, hr1, hbw, hz1⟩ := Mem.make_bytes (P := Try.prog) 22 5 Join.under Join.info8 L (by omega) w1
  rw [← sumRow_start wf (ls.map nb) L] at hr1
  have HR1 : Hid (HasRow W1 w1.heap.size (ncells .u8 (sumRow wf (ls.map nb) L 0)) 5) := hr1
  have HBW : Hid (Below w1.heap.size w1 W1) := hbw
  clear hc3 hb1 d0 hr1 hbw hz1
  go_wp2
  go_loopw [9] (fun k wr => ∃ m : Nat, m ≤ L ∧ k = .int .i64 m ∧ HasRow wr w1.heap.size (ncells .u8 (sumRow wf (ls.map nb) L m)) 5 ∧ Below w1.heap.size w1 wr) (fun k _ => L - (intOf k).toNat)
  case atStart => exact ⟨0, by omega, rfl, HR1.out, HBW.out⟩
  case round =>
    obtain ⟨m, hm, rfl, hrow, hbel⟩ := hrel
    have HROW : Hid (HasRow wr w1.heap.size (ncells .u8 (sumRow wf (ls.map nb) L m)) 5) := hrow
    have HBEL : Hid (Below w1.heap.size w1 wr) := hbel
    clear HR1 HBW c0 hmk
    by_cases hlm : m < L
    · have HM0 : Hid (mixAt wf (ls.map nb) m 0 = 0) := rfl
      have HML : Hid (∀ i, mixAt wf (ls.map nb) m i < 256) := fun i => mixAt_lt _ _ _ _ HWL.out
      have HMS : Hid (∀ i (hi : i < ls.length) (hk : m < ls[i].size), mixAt wf (ls.map nb) m (i + 1) = mixAt wf (ls.map nb) m i ^^^ mul (wf i) (ls[i][m]).toNat) := fun i hi hk => mixAt_str wf ls m i hi hk
      clear hrow hbel
      go_wp2
      go_loopw [10, 11] (fun n i wq => ∃ k : Nat, k ≤ xs.length ∧ i = .int .i64 k ∧ n = .int .i64 (mixAt wf (ls.map nb) m k : Nat) ∧ ∃ n, wq = wr.drewN n) (fun _ i _ => xs.length - (intOf i).toNat)
      case atStart => exact ⟨0, by omega, rfl, val_int (by rw [HM0.out]; rfl), 0, rfl⟩
      case round =>
        obtain ⟨k, hk, rfl, rfl, n, rfl⟩ := hrel
        by_cases hlt : k < xs.length
        · have hwl := HWN.out
          have hln := HN.out
          obtain ⟨b3, o3, rfl, d3⟩ := HC3.out k (by omega)
          have c3 : wr.cell? ⟨b3, o3 + k, none⟩ = _ := (HBEL.out.cell (World.block_lt_of_cell? w1 _ d3)).trans d3
          obtain ⟨b', o', hbo, d2⟩ := HC2.out k (by omega)
          injection hbo with hbo
          injection hbo with e1 e2 _
          subst e1 e2
          have c2 : wr.cell? ⟨b, o + k, none⟩ = _ := ((HB1.out.trans (HBEL.out.mono HB1.out.size)).cell (World.block_lt_of_cell? w _ d2)).trans d2
          rw [HWA.out k (by omega)] at c3
          have hsk := HSZ.out k (by omega)
          have hsm : m < ls[k].size := by omega
          have HST : Hid (mixAt wf (ls.map nb) m (k + 1) = mixAt wf (ls.map nb) m k ^^^ mul (wf k) (ls[k][m]'hsm).toNat) := HMS.out k (by omega) (by omega)
          have l1 := HWL.out k
          have l2 := HML.out k
          have p1 : (k : Int) < (xs.length : Int) := by omega
          have p2 : (k : Int) < (ls.length : Int) := by omega
          have p3 : (k : Int) < (ws.length : Int) := by omega
          have p4 : (m : Int) < (ls[k].size : Int) := by omega
          generalize ls[k] = s at *
          have ly : (s[m]'hsm).toNat < 256 := (s[m]'hsm).toNat_lt
          have wy := wrapI ly
          have l3 : mul (wf k) (s[m]'hsm).toNat < 256 := mul_lt l1
          have x1 := xorN l2 l3
          generalize wf k = wk at *
          generalize mixAt wf (ls.map nb) m k = sk at *
          clear d2 d3 hwl hln
          go_wp2_with fail
          go_region_held3 (fun w' => w'.cell? ⟨b3, o3 + k, none⟩ = some (.int .i64 (wk : Nat)) ∧ w'.cell? ⟨b, o + k, none⟩ = some (.string s)) (go_keep)
            ((go_at_call 79; refine (l05Mul_any _ _ _ (by assumption) (by assumption)).mono ?_; rintro e w' ⟨rfl, rfl⟩))
          go_wp2
          go_roundw
          case rel => exact ⟨k + 1, by omega, by go_num, val_int (by rw [HST.out]), _, rfl⟩
          case measure => simp [intOf]; omega
        · obtain rfl : k = xs.length := by omega
          have hlz := HML.out xs.length
          have HEN : Hid (xs.length = (ls.map nb).length) := by show _ = _; rw [List.length_map, HN.out]
          have hgl := World.block_lt_of_cell? _ _ (show wr.cell? ⟨w1.heap.size, m, none⟩ = some (.int .u8 0) by rw [Mem.cell_of_row HROW.out, sumRow_at _ _ _ _ hlm])
          have c4 := Mem.cell_of_row HROW.out m
          rw [sumRow_at _ _ _ _ hlm] at c4
          have f4 := Mem.frozen_of_row HROW.out m
          have HST : Hid (HasRow ((wr.drewN n).setCell ⟨w1.heap.size, m, none⟩ (.int .u8 (mixAt wf (ls.map nb) m xs.length : Nat))) w1.heap.size (ncells .u8 (sumRow wf (ls.map nb) L (m + 1))) 5) := by
            have := row_set (Sha.row_drewN HROW.out n) m (.int .u8 (mixAt wf (ls.map nb) m xs.length : Nat))
            rw [HEN.out, sumRow_set] at this
            rw [HEN.out]; exact this
          have HBS : Hid (∀ v, Below w1.heap.size w1 ((wr.drewN n).setCell ⟨w1.heap.size, m, none⟩ v)) := fun v => (Sha.bel_drewN HBEL.out n).setCell (p := ⟨w1.heap.size, m, none⟩) (Nat.le_refl _) v
          generalize mixAt wf (ls.map nb) m xs.length = z at *
          have wz := wrapB hlz
          have p5 : (m : Int) < (L : Int) := by omega
          go_wp2
          go_roundw
          case rel => exact ⟨m + 1, by omega, by go_num, HST.out, HBS.out _⟩
          case measure => simp [intOf]; omega
    · obtain rfl : m = L := by omega
      have hel : Els (mixed wf (ls.map nb) m) := mixed_els _ _ _ HWL.out
      rw [sumRow_end, ncells_u8 _ hel] at hrow
      have hcv := text_of_row (P := Try.prog) 22 9 5 Join.under Join.under8 Join.underS wr w1.heap.size m m ((mixed wf (ls.map nb) m).map UInt8.ofNat) [] (by simp [mixed_len]) (by simpa using hrow)
      have HE : Hid (toB (mixed wf (ls.map nb) m) = ⟨((mixed wf (ls.map nb) m).map UInt8.ofNat).toArray⟩) := rfl
      generalize (⟨((mixed wf (ls.map nb) m).map UInt8.ofNat).toArray⟩ : ByteArray) = z at *
      clear hrow hbel HROW hel
      go_wp2
      go_ret
      exact ⟨ret_strS HE.out.symm, HB1.out.trans (HBEL.out.mono HB1.out.size)⟩
end Go.Proofs.Ytkanhjafchiikaa.Gf
