/- What the program's digestOf answers: the digest. -/
import Derived.Test.YtjgkekgieodhnabDoorImplBlock
import Derived.Test.YtjgkekgieodhnabDoorImplPut
import Derived.Deep.RegionHeld3
namespace Go.Proofs.YtjgkekgieodhnabDoor.Sha
open Go.RowKit Go.Proofs.YtjgkekgieodhnabDoor.Mem

theorem bcell {W w1 : World} (hb : Below W.heap.size W w1) : (∀ b o, b < W.heap.size → w1.cell? ⟨b, o, none⟩ = W.cell? ⟨b, o, none⟩) ∧ (∀ b o, b < W.heap.size → w1.frozen? ⟨b, o, none⟩ = W.frozen? ⟨b, o, none⟩) :=
  ⟨fun b o h => hb.cell (p := ⟨b, o, none⟩) h, fun b o h => hb.frozen (p := ⟨b, o, none⟩) h⟩

theorem implStart_any (w : World) :
    Calls Tryd.prog 44 #[] w fun e w' => e = .returned (.agg #[.int .u32 1779033703, .int .u32 3144134277, .int .u32 1013904242, .int .u32 2773480762, .int .u32 1359893119, .int .u32 2600822924, .int .u32 528734635, .int .u32 1541459225]) ∧ Below w.heap.size w w' := by
  go_enter Tryd.func44, Tryd.ntmps44
  go_wp2
  exact bodyPost_ret (v := .agg #[.int .u32 1779033703, .int .u32 3144134277, .int .u32 1013904242, .int .u32 2773480762, .int .u32 1359893119, .int .u32 2600822924, .int .u32 528734635, .int .u32 1541459225]) (by simp [results, Tryd.results44, go_sem]) rfl ⟨rfl, (Below.refl _ _).alloc (Nat.le_refl _) _⟩

theorem keys_below {w w' : World} (h : Below w.heap.size w w') (hk : KeysLaid w) : KeysLaid w' := fun j hj => bel_cell h (hk j hj)

theorem keys_drew {w : World} (h : KeysLaid w) : KeysLaid w.drew := h
theorem st_small_at {s : St} (h : s.Small) (j : Nat) : (listOf s).getD j 0 < 4294967296 := by
  obtain ⟨s1, s2, s3, s4, s5, s6, s7, s8⟩ := h
  match j with
  | 0 => exact s1
  | 1 => exact s2
  | 2 => exact s3
  | 3 => exact s4
  | 4 => exact s5
  | 5 => exact s6
  | 6 => exact s7
  | 7 => exact s8
  | j + 8 => simp [listOf]
theorem row_lt' {W : World} {g : Nat} {cs : List Value} {e : TypeId} (h : HasRow W g cs e) : g < W.heap.size := by
  unfold HasRow at h
  exact (Array.getElem?_eq_some_iff.1 h).1

theorem tell_put (t : St) (j : Nat) (hj : j < 8) :
    (Lib.byteCells (tellTo t j) ++ List.replicate (32 - 4 * j) (Value.int .u8 0)).take (4 * j) ++ Lib.byteCells (low ((listOf t).getD j 0) 4) ++ (Lib.byteCells (tellTo t j) ++ List.replicate (32 - 4 * j) (Value.int .u8 0)).drop (4 * j + 4)
      = Lib.byteCells (tellTo t (j + 1)) ++ List.replicate (32 - 4 * (j + 1)) (.int .u8 0) := by
  have hl : (Lib.byteCells (tellTo t j)).length = 4 * j := by rw [length_byteCells, length_tellTo t j (by omega)]
  have e1 : (Lib.byteCells (tellTo t j) ++ List.replicate (32 - 4 * j) (Value.int .u8 0)).take (4 * j) = Lib.byteCells (tellTo t j) := by
    rw [List.take_append, hl, Nat.sub_self, List.take_zero, List.append_nil, List.take_of_length_le (by omega)]
  have e2 : (Lib.byteCells (tellTo t j) ++ List.replicate (32 - 4 * j) (Value.int .u8 0)).drop (4 * j + 4) = List.replicate (32 - 4 * (j + 1)) (.int .u8 0) := by
    rw [List.drop_append, List.drop_eq_nil_of_le (by omega), hl, List.drop_replicate, List.nil_append]
    congr 1
    omega
  rw [e1, e2, tellTo_succ t j hj, byteCells_append]

set_option maxRecDepth 100000 in
set_option maxHeartbeats 4000000 in
theorem implDig_any (s : ByteArray) (w : World) (hs : s.size ≤ 100000) (hk : KeysLaid w) :
    Calls Tryd.prog 28 #[.string s] w fun e w' => e = .returned (.string (digB s)) ∧ Below w.heap.size w w' := by
  have hp := length_padL s
  have hpn : (padL s).length = blocksOf s * 64 := hp
  have HPAD : Hid (∀ W, Calls Tryd.prog 43 #[.string s] W fun e w' => e = .returned (.slice (some ⟨W.heap.size, 0, none⟩) (blocksOf s * 64) (blocksOf s * 64)) ∧ HasRow w' W.heap.size (Lib.byteCells (padL s)) 5 ∧ Below W.heap.size W w' ∧ w'.heap.size = W.heap.size + 1) := fun W => padded_any s W hs
  have hnb : blocksOf s ≤ 2000 := by unfold blocksOf; omega
  have HD : Hid (digB s = ⟨(tellTo (stTo (padL s) (blocksOf s)) 8).toArray⟩) := rfl
  have HK : Hid (KeysLaid w) := hk
  have HLN : Hid ((padL s).length = blocksOf s * 64) := hpn
  obtain ⟨D, HDD⟩ : ∃ D, Hid (digB s = D) := ⟨_, rfl⟩
  rw [show digB s = D from HDD]
  have HD2 : Hid (D = ⟨(tellTo (stTo (padL s) (blocksOf s)) 8).toArray⟩) := (show digB s = D from HDD) ▸ HD
  have HBLK : Hid (∀ (B k : Nat) (W : World), k < blocksOf s → KeysLaid W → HasRow W B (Lib.byteCells (padL s)) 5 →
      Calls Tryd.prog 45 #[.agg #[.int .u32 ((stTo (padL s) k).a : Nat), .int .u32 ((stTo (padL s) k).b : Nat), .int .u32 ((stTo (padL s) k).c : Nat), .int .u32 ((stTo (padL s) k).d : Nat), .int .u32 ((stTo (padL s) k).e : Nat), .int .u32 ((stTo (padL s) k).f : Nat), .int .u32 ((stTo (padL s) k).g : Nat), .int .u32 ((stTo (padL s) k).h : Nat)], .slice (some ⟨B, k * 64, none⟩) (blocksOf s * 64 - k * 64) (blocksOf s * 64 - k * 64)] W
        fun e w' => e = .returned (.agg #[.int .u32 ((stTo (padL s) (k + 1)).a : Nat), .int .u32 ((stTo (padL s) (k + 1)).b : Nat), .int .u32 ((stTo (padL s) (k + 1)).c : Nat), .int .u32 ((stTo (padL s) (k + 1)).d : Nat), .int .u32 ((stTo (padL s) (k + 1)).e : Nat), .int .u32 ((stTo (padL s) (k + 1)).f : Nat), .int .u32 ((stTo (padL s) (k + 1)).g : Nat), .int .u32 ((stTo (padL s) (k + 1)).h : Nat)]) ∧ Below W.heap.size W w') := fun B k W hlt hkw hrow => by
    have hbs : (blk (padL s) k).size = 64 := size_blk hpn hlt
    have h := implBlock_any (stTo (padL s) k) B (k * 64) (blocksOf s * 64 - k * 64) (blocksOf s * 64 - k * 64) (blk (padL s) k) W (stTo_small _ _) hkw hbs (by omega) (by omega) (fun j hj => by
      rw [Mem.cell_of_row hrow, blk_at hpn hlt hj (by omega)]
      rw [Nat.mul_comm k 64]
      simp [Lib.byteCells, List.getElem?_eq_getElem (show 64 * k + j < (padL s).length by omega)])
    exact h
  have HF0 : Hid (stTo (padL s) 0 = startS) := rfl
  have HSS : Hid (∀ k, (stTo (padL s) k).Small) := fun k => stTo_small _ k
  clear hk hp hpn HD HDD
  generalize stTo (padL s) = F at *
  generalize padL s = pad at *
  generalize blocksOf s = nb at *
  go_enter Tryd.func28, Tryd.ntmps28
  go_upto_region 2 with (go_at_call 43; refine (HPAD.out _).mono ?_; rintro e w1 ⟨rfl, hr1, hb1, hz1⟩)
  go_upto_region 3 with (go_at_call 44; refine (implStart_any _).mono ?_; rintro e w2 ⟨rfl, hb2⟩)
  have hz2 := hb2.size
  have hr2 : HasRow w2 w.heap.size (Lib.byteCells pad) 5 := row_below hr1 hb2 (by omega)
  have hbel2 : Below w.heap.size w w2 := hb1.trans (hb2.mono (by omega))
  have HR2 : Hid _ := hr2
  have HB2 : Hid _ := hbel2
  have hgs : w.heap.size < w2.heap.size := by omega
  clear hr1 hb1 hb2 hr2 hbel2 HPAD
  obtain ⟨gs, hgs2⟩ : ∃ gs, w2.heap.size = gs := ⟨_, rfl⟩
  rw [hgs2]
  have HGS : Hid (w2.heap.size = gs) := hgs2
  rw [hgs2] at hgs
  clear hgs2 hz1 hz2
  have hq : (nb : Int) * 64 / 64 = (nb : Int) := by omega
  go_wp2_with fail
  go_loopw [14] (fun i wr => ∃ k : Nat, k ≤ nb ∧ i = .int .i64 k ∧ HasRow wr w.heap.size (Lib.byteCells pad) 5 ∧ HasRow wr gs (u32s (listOf (F k))) 66 ∧ Below w.heap.size w wr) (fun i _ => nb - (intOf i).toNat)
  case atStart => exact ⟨0, by omega, rfl, row_alloc HR2.out _, by rw [HF0.out]; exact row_new_at w2 (u32s (listOf startS)) 66 gs (show w2.heap.size = gs from HGS).symm, HB2.out.alloc (by have := (show w2.heap.size = gs from HGS); omega) _⟩
  case round =>
    clear HR2 HB2 HGS HF0
    obtain ⟨k, hk, rfl, hra, hrs, hbel⟩ := hrel
    have HRA : Hid (HasRow wr w.heap.size (Lib.byteCells pad) 5) := hra
    have HRS : Hid (HasRow wr gs (u32s (listOf (F k))) 66) := hrs
    have HKW : Hid (KeysLaid wr) := keys_below hbel HK.out
    have hgl := row_lt' hrs
    have hwl := row_lt' hra
    by_cases hlt : k < nb
    · obtain ⟨d0, d1, d2, d3, d4, d5, d6, d7⟩ := cells8 hrs
      have hfz : ∀ j, wr.frozen? ⟨gs, j, none⟩ = false := fun j => Mem.frozen_of_row hrs j
      have HC : Hid (∀ W, KeysLaid W → HasRow W w.heap.size (Lib.byteCells pad) 5 → _) := fun W h1 h2 => HBLK.out w.heap.size k W hlt h1 h2
      generalize hFk : F k = t at *
      generalize hFk1 : F (k + 1) = t1 at *
      have HF1 : Hid (F (k + 1) = t1) := hFk1
      have p1 : (0 : Int) ≤ (k : Int) * 64 := by omega
      have p2 : (k : Int) * 64 ≤ (nb : Int) * 64 := by omega
      have q1 : ((k : Int) * 64).toNat = k * 64 := by omega
      have x1 : IntKind.i64.wrap ((k : Int) * 64) = (k : Int) * 64 := IntWalk.i64_in _ ⟨by omega, by omega⟩
      have hne : ¬ nb * 64 = k * 64 := by omega
      have hne2 : ¬ nb = k := by omega
      have p3 : (k : Int) ≤ (nb : Int) := by omega
      have p4 : k ≤ nb := by omega
      have p5 : k * 64 ≤ nb * 64 := by omega
      clear hra hrs hFk hFk1
      go_wp2_with fail
      go_region_with (go_at_call 45; refine (HC.out _ (keys_drew HKW.out) (row_drew HRA.out)).mono ?_; rintro e w3 ⟨rfl, hb3⟩; obtain ⟨hcc, hff⟩ := bcell hb3; simp at hcc hff)
      have ha3 : HasRow w3 w.heap.size (Lib.byteCells pad) 5 := row_below (row_drew HRA.out) hb3 hwl
      have hs3 : HasRow w3 gs (u32s (listOf t)) 66 := row_below (row_drew HRS.out) hb3 hgl
      have hb4 : Below w.heap.size w w3 := hbel.drew.trans (hb3.mono hbel.size)
      have HA3 : Hid _ := ha3
      have HS3 : Hid _ := hs3
      have HB4 : Hid _ := hb4
      clear ha3 hs3 hb4 hb3 hcc hff d0 d1 d2 d3 d4 d5 d6 d7 hfz hbel
      go_wp2_with fail
      go_roundw
      case rel => exact ⟨k + 1, by omega, by go_num, row_other8 HA3.out (by omega) _ _ _ _ _ _ _ _, by rw [HF1.out]; exact row_set8 HS3.out _ _ _ _ _ _ _ _, bel_set8 HB4.out (by omega) _ _ _ _ _ _ _ _⟩
      case measure => simp [intOf]; omega
    · have e : k = nb := by omega
      subst e
      have HSM : Hid (F k).Small := HSS.out k
      generalize F k = t at *
      have HBE : Hid (Below w.heap.size w wr) := hbel
      clear HBLK hra hrs hlt hk HKW HK HRA HLN
      go_wp2_with fail
      obtain ⟨gt, HGT⟩ : ∃ gt, Hid (wr.heap.size = gt) := ⟨_, rfl⟩
      have hgt : wr.heap.size = gt := HGT
      rw [hgt]
      rw [hgt] at hgl
      go_loopw [24] (fun i wq => ∃ j : Nat, j ≤ 8 ∧ i = .int .i64 j ∧ HasRow wq gt (Lib.byteCells (tellTo t j) ++ List.replicate (32 - 4 * j) (.int .u8 0)) 69 ∧ HasRow wq gs (u32s (listOf t)) 66 ∧ Below w.heap.size w wq) (fun i _ => 8 - (intOf i).toNat)
      case atStart => exact ⟨0, by omega, rfl, row_new_at wr (List.replicate 32 (.int .u8 0)) 69 gt hgt.symm, row_alloc HRS.out _, HBE.out.alloc (by omega) _⟩
      case round =>
        clear HBE HRS HGT hgt
        obtain ⟨j, hj, rfl, hrt, hrs, hbel⟩ := hrel
        have HRT : Hid (HasRow wr gt (Lib.byteCells (tellTo t j) ++ List.replicate (32 - 4 * j) (.int .u8 0)) 69) := hrt
        have HRS : Hid (HasRow wr gs (u32s (listOf t)) 66) := hrs
        by_cases hlt : j < 8
        · have c1 := Mem.cell_of_row hrs j
          rw [st_cell t j hlt] at c1
          have hl : (Lib.byteCells (tellTo t j)).length = 4 * j := by rw [length_byteCells, length_tellTo t j (by omega)]
          have HP : Hid (∀ W, HasRow W gt (Lib.byteCells (tellTo t j) ++ List.replicate (32 - 4 * j) (.int .u8 0)) 69 → Calls Tryd.prog 46 #[.slice (some ⟨gt, 4 * j, none⟩) 4 (32 - 4 * j), .int .u64 (((listOf t).getD j 0 : Nat) : Int)] W fun e w' => e = .returned (.tuple #[]) ∧ HasRow w' gt (Lib.byteCells (tellTo t (j + 1)) ++ List.replicate (32 - 4 * (j + 1)) (.int .u8 0)) 69 ∧ (∀ k, k ≠ gt → w'.heap[k]? = W.heap[k]?) ∧ (∀ B u, B ≤ gt → Below B u W → Below B u w')) := fun W hW =>
            (putHigh_any gt (4 * j) 4 (32 - 4 * j) ((listOf t).getD j 0) _ 69 W hW (by omega) (by simp [hl]; omega) (by have := st_small_at HSM.out j; omega) (fun q h1 h2 => by
              rw [List.getElem?_append_right (by omega), List.getElem?_replicate, if_pos (by omega)]
              exact ⟨0, rfl⟩)).mono fun e w' h => ⟨h.1, by have := h.2.1; rw [tell_put t j hlt] at this; exact this, h.2.2.1, h.2.2.2.2⟩
          have hx := st_small_at HSM.out j
          generalize (listOf t).getD j 0 = x at *
          have p0 : (0 : Int) ≤ 4 * (j : Int) := by omega
          have p1 : 4 * (j : Int) ≤ 4 * (j : Int) + 4 := by omega
          have p2 : 4 * (j : Int) + 4 ≤ 32 := by omega
          have q0 : (4 * (j : Int)).toNat = 4 * j := by omega
          have q1 : (4 * (j : Int) + 4).toNat = 4 * j + 4 := by omega
          have x0 : IntKind.i64.wrap (4 * (j : Int)) = 4 * (j : Int) := IntWalk.i64_in _ ⟨by omega, by omega⟩
          have x1 : IntKind.i64.wrap (4 * (j : Int) + 4) = 4 * (j : Int) + 4 := IntWalk.i64_in _ ⟨by omega, by omega⟩
          have z0 : 4 * j + 4 - 4 * j = 4 := by omega
          have j0 : (0 : Int) ≤ (j : Int) := by omega
          have j1 : (j : Int) < 8 := by omega
          have hm : IntKind.u64.wrap (x : Int) = (x : Int) := by
            rw [show IntKind.u64.wrap (x : Int) = (x : Int) % 18446744073709551616 by rfl]; omega
          have hne : ¬ 32 = 4 * j := by omega
          have hne' : ¬ 4 * j = 32 := by omega
          clear hrt hrs hl
          go_wp2_with fail
          go_region_with (go_at_call 46; refine (HP.out _ (row_drew HRT.out)).mono ?_; rintro e w3 ⟨rfl, hr3, hoth, hbb⟩)
          have hs3 : HasRow w3 gs (u32s (listOf t)) 66 := row_far (row_drew HRS.out) hoth (by omega)
          have hb3 : Below w.heap.size w w3 := hbb _ _ (by omega) hbel.drew
          have HR3 : Hid _ := hr3
          have HS3 : Hid _ := hs3
          have HB3 : Hid _ := hb3
          clear hr3 hs3 hb3 hoth hbb hbel c1
          go_wp2_with fail
          go_roundw
          case rel => exact ⟨j + 1, by omega, by go_num, HR3.out, HS3.out, HB3.out⟩
          case measure => simp [intOf]; omega
        · have e8 : j = 8 := by omega
          subst e8
          have hcv := text_of_row (P := Tryd.prog) 44 9 5 Join.under Join.under8 Join.underS wr gt 32 32 (tellTo t 8) _ (length_tellTo t 8 (by omega)) hrt
          rw [← HD2.out] at hcv
          have HB3 : Hid _ := hbel
          clear hrt hrs hbel HRT HRS
          go_wp2_with fail
          go_ret
          exact ⟨rfl, HB3.out⟩
end Go.Proofs.YtjgkekgieodhnabDoor.Sha
