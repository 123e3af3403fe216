/- What the model's l02All answers: the digest. -/
import Derived.Test.YtjgkekgieodhnabDoorSpecBlock
import Derived.Test.YtjgkekgieodhnabDoorTextsA
import Derived.Test.YtjgkekgieodhnabDoorTextsB
namespace Go.Proofs.YtjgkekgieodhnabDoor.Sha
open Go.RowKit Go.Proofs.YtjgkekgieodhnabDoor.Mem

def lenV : Value → Nat | .slice _ n _ => n | _ => 0

/-- How many zeros go behind a text's byte 128. -/
def zeros (s : ByteArray) : Nat := (119 - s.size % 64) % 64
def head (s : ByteArray) (z : Nat) : List UInt8 := s.data.toList ++ [128] ++ List.replicate z 0
theorem length_head (s : ByteArray) (z : Nat) : (head s z).length = s.size + 1 + z := by
  have : s.data.toList.length = s.size := rfl
  simp [head]
  omega
theorem head_succ (s : ByteArray) (z : Nat) : head s z ++ [0] = head s (z + 1) := by
  simp [head, List.replicate_succ']
theorem padL_head (s : ByteArray) : padL s = head s (zeros s) ++ low (8 * s.size) 8 := rfl

theorem low_take (v i : Nat) (hi : i < 8) : (low v 8).take (i + 1) = (low v 8).take i ++ [UInt8.ofNat (v / 256 ^ (7 - i))] := by
  match i, hi with
  | 0, _ => rfl
  | 1, _ => rfl
  | 2, _ => rfl
  | 3, _ => rfl
  | 4, _ => rfl
  | 5, _ => rfl
  | 6, _ => rfl
  | 7, _ => rfl
theorem byte_at (v i : Nat) (hi : i < 8) : (v : Int) / 2 ^ (56 - 8 * i) % 256 = ((UInt8.ofNat (v / 256 ^ (7 - i))).toNat : Int) := by
  have e : (2 : Int) ^ (56 - 8 * i) = ((256 ^ (7 - i) : Nat) : Int) := by
    rw [show 56 - 8 * i = 8 * (7 - i) by omega, show (256 : Nat) = 2 ^ 8 by rfl, ← Nat.pow_mul]; simp
  rw [e]
  simp

theorem four_cells (l : List UInt8) (x : Nat) (hx : x < 4294967296) : Lib.byteCells (l ++ low x 4) = Lib.byteCells l ++ [.int .u8 ((x : Int) / 16777216), .int .u8 ((x : Int) / 65536 % 256), .int .u8 ((x : Int) / 256 % 256), .int .u8 ((x : Int) % 256)] := by
  have h0 : (UInt8.ofNat (x / 256 ^ 3)).toNat = x / 16777216 := by
    have : x / 256 ^ 3 = x / 16777216 := by rfl
    rw [this, UInt8.toNat_ofNat']
    omega
  simp only [Lib.byteCells, List.map_append, low, List.map_cons, List.map_nil]
  rw [h0]
  simp

theorem specStart_st (w : World) :
    Calls Tryd.prog 21 #[] w fun e w' => e = .returned (.slice (some ⟨w.heap.size, 0, none⟩) 8 8) ∧ HasSt w' w.heap.size startS ∧ Below w.heap.size w w' ∧ w'.heap.size = w.heap.size + 1 :=
  (specStart_any w).mono fun _ _ h => ⟨h.1, by
    rw [h.2]
    intro j hj
    rw [Mem.cell_of_row (row_new w (i64s start) 2) j]
    exact i64_cell startS j hj, by rw [h.2]; exact (Below.refl _ _).alloc (Nat.le_refl _) _, by rw [h.2]; simp⟩

set_option maxRecDepth 100000 in
set_option maxHeartbeats 4000000 in
theorem specAll_any (s : ByteArray) (w : World) (hs : s.size ≤ 100000) :
    Calls Tryd.prog 11 #[.string s] w fun e w' => e = .returned (.string (digB s)) ∧ Below w.heap.size w w' := by
  obtain ⟨v0, W0, hcv, hown0, hb0, hz0⟩ := convert_M (P := Tryd.prog) 9 44 5 Join.underS Join.under Join.under8 w s (by omega)
  obtain ⟨i0, hi, hza, hzb, hzc⟩ := info_parts Join.info8
  have HOWN : Hid (OwnsM W0 w.heap.size 5 v0 s.data.toList) := hown0
  have HB0 : Hid (Below w.heap.size w W0) := hb0
  have hlen : s.data.toList.length = s.size := rfl
  obtain ⟨D, HD⟩ : ∃ D, Hid (digB s = D) := ⟨_, rfl⟩
  rw [show digB s = D from HD]
  have HZ0 : Hid (W0.heap.size = w.heap.size + 1) := hz0
  clear hown0 hb0 hz0
  go_enter Tryd.func11, Tryd.ntmps11
  go_wp2_with (at_builtin; refine wpList_append_M (by rfl) _ _ 44 (by rfl) w.heap.size 5 i0 Join.under hi hza hzb hzc _ _ (by rfl) (OwnsM.alloc HOWN.out _) ⟨W0.heap.size, 0, none⟩ 1 128 (by rfl) ?c1 ?c2 ?c3 ?_)
  case c1 => simp [Addr.add]
  case c2 => rw [hlen]; omega
  case c3 => have := HZ0.out; simp; omega
  intro v1 w1 hown1 hg1
  have hb1 : Below w.heap.size w w1 := (HB0.out.alloc (by have := HZ0.out; omega) _).grown hg1 (by have := HZ0.out; simp; omega) (fun k hk => (OwnsM.lt HOWN.out k hk).1)
  have HOWN1 : Hid (OwnsM w1 w.heap.size 5 v1 (head s 0)) := by
    unfold Hid head
    simpa using hown1
  have HB1 : Hid (Below w.heap.size w w1) := hb1
  clear hown1 hg1 HOWN HB0 hcv hb1 HZ0
  go_wp2_with fail
  go_loopw [3] (fun b wr => ∃ z : Nat, z ≤ zeros s ∧ OwnsM wr w.heap.size 5 b (head s z) ∧ Below w.heap.size w wr) (fun b _ => s.size + 100 - lenV b)
  case atStart => exact ⟨0, by omega, HOWN1.out, HB1.out⟩
  case round =>
    clear HOWN1 HB1
    obtain ⟨z, hz, hown, hbel⟩ := hrel
    have HOWN : Hid (OwnsM wr w.heap.size 5 u3 (head s z)) := hown
    have hzl : zeros s ≤ 63 := by unfold zeros; omega
    have hfull := hown
    obtain ⟨gb, cap, cur, fz, rfl, hgb, hrow, hfz, hcap, hcm, hcz, htk⟩ := hown
    have hl := length_head s z
    have hbz := hbel.size
    have hnl : (head s z).length ≤ 200000 := by omega
    by_cases hlt : z < zeros s
    · have hne : ((head s z).length : Int) % 64 ≠ 56 := by unfold zeros at hlt; omega
      have hne2 : ¬ (((head s z).length : Int) % 64 = 56) := hne
      generalize hL : (head s z).length = L at *
      have HL : Hid ((head s z).length = L) := hL
      clear hL hrow hfz hcap hcm hcz htk
      go_wp2_with (at_builtin; refine wpList_append_M (by rfl) _ _ 44 (by rfl) w.heap.size 5 i0 Join.under hi hza hzb hzc _ _ (by rfl) (OwnsM.alloc HOWN.out _) ⟨wr.heap.size, 0, none⟩ 1 0 (by rfl) ?c1 ?c2 ?c3 ?_)
      case c1 => simp [Addr.add]
      case c2 => rw [HL.out]; omega
      case c3 => simp; omega
      intro v2 w2 hown2 hg2
      rw [head_succ] at hown2
      have hb2 : Below w.heap.size w w2 := (hbel.alloc hbz _).grown hg2 (by simp; omega) (fun k hk => (OwnsM.lt HOWN.out k hk).1)
      have hlv : lenV v2 = L + 1 := by
        obtain ⟨_, _, _, _, rfl, _⟩ := hown2
        show (head s (z + 1)).length = L + 1
        rw [length_head]; omega
      have HO2 : Hid _ := hown2
      have HB2 : Hid _ := hb2
      clear hown2 hg2 hb2 hbel HOWN hfull
      go_wp2_with fail
      exact ⟨⟨z + 1, by omega, HO2.out, HB2.out⟩, by rw [hlv]; show s.size + 100 - (L + 1) < s.size + 100 - L; omega⟩
    · have ez : z = zeros s := by omega
      subst ez
      have heq : ((head s (zeros s)).length : Int) % 64 = 56 := by rw [hl]; unfold zeros; omega
      have HLH : Hid ((head s (zeros s)).length = s.size + 1 + zeros s) := hl
      have HBE : Hid (Below w.heap.size w wr) := hbel
      generalize hL : (head s (zeros s)).length = L at *
      have HL : Hid ((head s (zeros s)).length = L) := hL
      have heq2 : ((s.size : Int) + 1 + (zeros s : Int)) % 64 = 56 := by omega
      clear hL hrow hfz hcap hcm hcz htk hbel hfull hl heq2
      go_wp2_with fail
      go_loopw [3, 5] (fun b k wr => ∃ i : Nat, i ≤ 8 ∧ k = .int .i64 (56 - 8 * (i : Int)) ∧ OwnsM wr w.heap.size 5 b (head s (zeros s) ++ (low (8 * s.size) 8).take i) ∧ Below w.heap.size w wr) (fun _ k _ => (intOf k + 8).toNat)
      case atStart => exact ⟨0, by omega, rfl, by simpa using HOWN.out, HBE.out⟩
      case round =>
        clear HOWN HBE heq
        obtain ⟨i, hi8, rfl, hown, hbel⟩ := hrel
        have hbz2 := hbel.size
        have hlw : (head s (zeros s) ++ (low (8 * s.size) 8).take i).length ≤ 300000 := by
          rw [List.length_append, List.length_take, length_low, HL.out]; omega
        by_cases hlt : i < 8
        · have HOWN : Hid (OwnsM wr w.heap.size 5 u3 (head s (zeros s) ++ (low (8 * s.size) 8).take i)) := hown
          obtain ⟨m, hm⟩ : ∃ m : Nat, m = 56 - 8 * i := ⟨_, rfl⟩
          have em : (56 - 8 * (i : Int)) = (m : Int) := by omega
          rw [em]
          have hm56 : (m : Int) ≤ 56 := by omega
          have hby := byte_at (8 * s.size) i hlt
          rw [← hm] at hby
          have HBY : Hid _ := hby
          have HM : Hid (m = 56 - 8 * i) := hm
          obtain ⟨bb, hbb⟩ : ∃ bb, bb = UInt8.ofNat (8 * s.size / 256 ^ (7 - i)) := ⟨_, rfl⟩
          have HT : Hid (head s (zeros s) ++ ((low (8 * s.size) 8).take i ++ [bb]) = head s (zeros s) ++ (low (8 * s.size) 8).take (i + 1)) := by
            unfold Hid; rw [low_take _ i hlt, hbb]
          rw [← hbb] at HBY
          clear hown hm em hby hbb
          go_wp2_with (at_builtin; refine wpList_append_M (by rfl) _ _ 44 (by rfl) w.heap.size 5 i0 Join.under hi hza hzb hzc _ _ (by rfl) (OwnsM.alloc HOWN.out _) ⟨wr.heap.size, 0, none⟩ 1 bb (by rfl) ?c1 ?c2 ?c3 ?_)
          case c1 =>
            have h := HBY.out
            rw [show ((8 * s.size : Nat) : Int) = 8 * (s.size : Int) by omega] at h
            simp [Addr.add]
            exact h
          case c2 => omega
          case c3 => simp; omega
          intro v2 w2 hown2 hg2
          try simp only [List.append_assoc] at hown2
          rw [HT.out] at hown2
          have hb2 : Below w.heap.size w w2 := (hbel.alloc hbz2 _).grown hg2 (by simp; omega) (fun k hk => (OwnsM.lt HOWN.out k hk).1)
          have HO2 : Hid _ := hown2
          have HB2 : Hid _ := hb2
          clear hown2 hg2 hb2 hbel HOWN
          go_wp2_with fail
          have hm := HM.out
          go_roundw
          case rel => exact ⟨i + 1, by omega, by congr 1; omega, HO2.out, HB2.out⟩
          case measure => simp [intOf]; omega
        · have e8 : i = 8 := by omega
          subst e8
          have hpad : head s (zeros s) ++ (low (8 * s.size) 8).take 8 = padL s := by
            rw [padL_head, List.take_of_length_le (by rw [length_low]; omega)]
          rw [hpad] at hown
          have hpl := length_padL s
          have HC := fun g hg => OwnsM.cells hown (g := g) hg
          obtain ⟨gb, cap, cur, fz, rfl, hgb, hrowb, _, hcap, hcm, _, _⟩ := hown
          have HCC : Hid (∀ j (hj : j < (padL s).length), wr.cell? ⟨gb, j, none⟩ = some (.int .u8 ((padL s)[j].toNat : Nat))) := HC gb rfl
          have hgl : gb < wr.heap.size := (Array.getElem?_eq_some_iff.1 hrowb).1
          have HBE : Hid (Below w.heap.size w wr) := hbel
          have hnbl : (s.size + 72) / 64 ≤ 2000 := by omega
          have HDD : Hid (D = ⟨(tellTo (stTo (padL s) ((s.size + 72) / 64)) 8).toArray⟩) := by unfold Hid; rw [← show digB s = D from HD]; rfl
          have HSS : Hid (∀ k, (stTo (padL s) k).Small) := fun k => stTo_small _ k
          have HF0 : Hid (stTo (padL s) 0 = startS) := rfl
          have HBLK : Hid (∀ (g c k : Nat) (W : World), k < (s.size + 72) / 64 → HasSt W g (stTo (padL s) k) → Calls Tryd.prog 22 #[.slice (some ⟨g, 0, none⟩) 8 c, .string (blk (padL s) k)] W fun e w' => (∃ g' c', e = .returned (.slice (some ⟨g', 0, none⟩) 8 c') ∧ HasSt w' g' (stTo (padL s) (k + 1))) ∧ Below W.heap.size W w') :=
            fun g c k W hk hst => specBlock_any (stTo (padL s) k) g c (blk (padL s) k) W (stTo_small _ k) (size_blk hpl hk) hst
          have HBA : Hid (∀ k j (hk : k < (s.size + 72) / 64) (hj : j < 64), (blk (padL s) k).size = 64 ∧ ∀ h1 h2, (blk (padL s) k)[j]'h1 = (padL s)[64 * k + j]'h2) := fun k j hk hj => ⟨size_blk hpl hk, fun h1 h2 => blk_at hpl hk hj h1⟩
          generalize hnb : (s.size + 72) / 64 = nb at *
          clear hpad HC hbel hrowb hlw hlt hi8 HD hnb
          generalize stTo (padL s) = F at *
          generalize padL s = pad at *
          go_upto_region 10 with (go_at_call 21; refine (specStart_st _).mono ?_; rintro e w2 ⟨rfl, hst2, hb2, hz2⟩)
          have hb3 : Below w.heap.size w w2 := HBE.out.trans (hb2.mono hbz2)
          have HC2 : Hid (∀ j (hj : j < pad.length), w2.cell? ⟨gb, j, none⟩ = some (.int .u8 (pad[j].toNat : Nat))) := fun j hj => bel_cell hb2 (HCC.out j hj)
          have HST : Hid (HasSt w2 wr.heap.size (F 0)) := by rw [HF0.out]; exact hst2
          have HBE2 : Hid (Below w.heap.size w w2) := hb3
          have HPL : Hid (pad.length = nb * 64) := hpl
          clear hst2 hb2 hb3 HBE HCC HF0 hz2 hgl
          go_wp2_with fail
          go_loopw [6, 7] (fun st i wr => ∃ k g' c' : Nat, k ≤ nb ∧ i = .int .i64 (64 * (k : Int)) ∧ st = .slice (some ⟨g', 0, none⟩) 8 c' ∧ HasSt wr g' (F k) ∧ (∀ j (hj : j < pad.length), wr.cell? ⟨gb, j, none⟩ = some (.int .u8 (pad[j].toNat : Nat))) ∧ Below w.heap.size w wr) (fun _ i _ => 64 * nb + 64 - (intOf i).toNat)
          case atStart => exact ⟨0, _, 8, by omega, rfl, rfl, HST.out, HC2.out, HBE2.out⟩
          case round =>
            clear HST HC2 HBE2
            obtain ⟨k, g', c', hk, rfl, rfl, hst, hcc, hbel⟩ := hrel
            by_cases hlt : k < nb
            · have hbs := (HBA.out k 0 hlt (by omega)).1
              have hcv : (convert 44 9 (.slice (some ⟨gb, 64 * k, none⟩) 64 (cap - 64 * k))).run Tryd.prog wr = .ok (.string (blk pad k)) wr := by
                have hll : (blk pad k).data.toList.length = 64 := hbs
                have h := run_convert_bytes_back (P := Tryd.prog) wr 44 9 5 ⟨gb, 64 * k, none⟩ (cap - 64 * k) (blk pad k).data.toList Join.under Join.under8 Join.underS (fun j hj => by
                  have hj64 : j < 64 := by omega
                  have hjp : 64 * k + j < pad.length := by have := HPL.out; omega
                  rw [Addr.add_mid, hcc (64 * k + j) hjp]
                  have := (HBA.out k j hlt hj64).2 (by omega) hjp
                  rw [← this]
                  rfl)
                rw [hll] at h
                simpa using h
              have HST : Hid (HasSt wr g' (F k)) := hst
              have HCC : Hid (∀ j (hj : j < pad.length), wr.cell? ⟨gb, j, none⟩ = some (.int .u8 (pad[j].toNat : Nat))) := hcc
              have p1 : (0 : Int) ≤ 64 * (k : Int) := by omega
              have p2 : 64 * (k : Int) < (nb : Int) * 64 := by omega
              have p3 : 64 * (k : Int) + 64 ≤ (cap : Int) := by omega
              have p4 : 64 * (k : Int) ≤ 64 * (k : Int) + 64 := by omega
              have q1 : (64 * (k : Int)).toNat = 64 * k := by omega
              have q2 : (64 * (k : Int) + 64).toNat = 64 * k + 64 := by omega
              have q3 : 64 * k + 64 - 64 * k = 64 := by omega
              have hne : ¬ cap = 64 * k := by omega
              have HCALL : Hid (∀ W, HasSt W g' (F k) → Calls Tryd.prog 22 #[.slice (some ⟨g', 0, none⟩) 8 c', .string (blk pad k)] W fun e w' => (∃ g' c', e = .returned (.slice (some ⟨g', 0, none⟩) 8 c') ∧ HasSt w' g' (F (k + 1))) ∧ Below W.heap.size W w') := fun W h => HBLK.out g' c' k W hlt h
              generalize blk pad k = bb at *
              clear hst hcc hbs
              go_wp2_with (go_at_call 22; refine (HCALL.out _ HST.out).mono ?_; rintro e w3 ⟨⟨g3, c3, rfl, hst3⟩, hb3⟩)
              have HC3 : Hid (∀ j (hj : j < pad.length), w3.cell? ⟨gb, j, none⟩ = some (.int .u8 (pad[j].toNat : Nat))) := fun j hj => bel_cell hb3 (HCC.out j hj)
              have HB3 : Hid (Below w.heap.size w w3) := hbel.trans (hb3.mono hbel.size)
              go_roundw
              case rel => exact ⟨k + 1, g3, c3, by omega, by congr 1 <;> omega, rfl, hst3, HC3.out, HB3.out⟩
              case measure => simp [intOf]; omega
            · have ek : k = nb := by omega
              subst ek
              have HSM : Hid (F k).Small := HSS.out k
              have HDK : Hid (D = ⟨(tellTo (F k) 8).toArray⟩) := HDD.out
              generalize F k = t at *
              have HST : Hid (HasSt wr g' t) := hst
              have HBE : Hid (Below w.heap.size w wr) := hbel
              have hgl := World.block_lt_of_cell? wr _ (hst 0 (by omega))
              simp only at hgl
              have hbz3 := hbel.size
              have e0 : ¬ 64 * (k : Int) < (k : Int) * 64 := by omega
              have e1 : (k : Int) * 64 ≤ 64 * (k : Int) := by omega
              clear hst hcc hbel HBLK HBA HDD HSS hlt hk
              go_upto_region 15 with fail
              obtain ⟨go, hgo⟩ : ∃ go, wr.heap.size = go := ⟨_, rfl⟩
              rw [hgo]
              rw [hgo] at hgl hbz3
              have HGO : Hid (wr.heap.size = go) := hgo
              clear hgo
              go_wp2_with fail
              go_loopw [8, 9] (fun out i wq => ∃ j : Nat, j ≤ 8 ∧ i = .int .i64 j ∧ OwnsB wq go 5 out (tellTo t j) ∧ HasSt wq g' t ∧ Below w.heap.size w wq ∧ go ≤ wq.heap.size) (fun _ i _ => 8 - (intOf i).toNat)
              case atStart =>
                have hgo := show wr.heap.size = go from HGO
                exact ⟨0, by omega, rfl, by rw [← hgo]; exact own_empty wr wr.heap.size 5 (Nat.le_refl _), fun q hq => bel_cell ((Below.refl wr.heap.size wr).alloc (Nat.le_refl _) _) (HST.out q hq), HBE.out.alloc (by omega) _, by simp; omega⟩
              case round =>
                clear HST HBE HGO
                obtain ⟨j, hj, rfl, hown, hst, hbel, hgz⟩ := hrel
                by_cases hlt : j < 8
                · have c1 := hst j hlt
                  have hx := st_lt HSM.out j
                  have HTL : Hid (tellTo t (j + 1) = tellTo t j ++ low ((listOf t).getD j 0) 4) := tellTo_succ t j hlt
                  have HOWN : Hid (OwnsB wr go 5 u8 (tellTo t j)) := hown
                  have HST : Hid (∀ q, q < 8 → wr.cell? ⟨g', q, none⟩ = some (.int .i64 ((listOf t).getD q 0 : Nat))) := hst
                  have hln := length_tellTo t j (by omega)
                  have HLN : Hid ((tellTo t j).length = 4 * j) := hln
                  obtain ⟨x, hxe⟩ : ∃ x, (listOf t).getD j 0 = x := ⟨_, rfl⟩
                  rw [hxe] at c1 hx HTL
                  have j0 : (0 : Int) ≤ (j : Int) := by omega
                  have j1 : (j : Int) < 8 := by omega
                  clear hst hown hxe hln
                  go_wp2_with (at_builtin; refine wpList_append_own _ (by rfl) _ _ 44 (by rfl) go 5 i0 (.int .u8 0) 1 1 Join.under hi hza hzb hzc rfl (by decide) _ _ _ (by rfl) (World.ownsRow.alloc HOWN.out _) ⟨wr.heap.size, 0, none⟩ 4 4 [.int .u8 ((x : Int) / 16777216), .int .u8 ((x : Int) / 65536 % 256), .int .u8 ((x : Int) / 256 % 256), .int .u8 ((x : Int) % 256)] (by rfl) (by rfl) ?c1 ?c2 ?c3 ?c4 ?c5 ?_)
                  case c1 =>
                    intro q u hq
                    match q, hq with
                    | 0, hq => simp at hq; subst hq; simp [Addr.add]
                    | 1, hq => simp at hq; subst hq; simp [Addr.add]
                    | 2, hq => simp at hq; subst hq; simp [Addr.add]
                    | 3, hq => simp at hq; subst hq; simp [Addr.add]
                  case c2 =>
                    intro u hu
                    simp at hu
                    rcases hu with rfl | rfl | rfl | rfl <;> rfl
                  case c3 => rw [HLN.out]; unfold maxLen; omega
                  case c4 => rw [HLN.out]; omega
                  case c5 => simp; omega
                  intro v' w4 hown' hgrow _
                  have hob := fun k hk => (World.ownsRow.lt HOWN.out k hk).1
                  have hown4 : OwnsB w4 go 5 v' (tellTo t (j + 1)) := by
                    rw [HTL.out]
                    unfold OwnsB
                    have e4 : Lib.byteCells (tellTo t j ++ low x 4) = Lib.byteCells (tellTo t j) ++ [.int .u8 ((x : Int) / 16777216), .int .u8 ((x : Int) / 65536 % 256), .int .u8 ((x : Int) / 256 % 256), .int .u8 ((x : Int) % 256)] := four_cells _ _ hx
                    rw [e4, List.length_append, length_low]
                    exact hown'
                  have hb4 : Below w.heap.size w w4 := (hbel.alloc (by omega) _).grown hgrow (by simp; omega) (fun k hk => by have := hob k hk; omega)
                  have hst4 : HasSt w4 g' t := fun q hq => by
                    rw [hgrow.cell_far _ (by simp; omega) (by intro e; have := hob g' e.symm; omega)]
                    exact bel_cell ((Below.refl wr.heap.size wr).alloc (Nat.le_refl _) _) (HST.out q hq)
                  have hz4 := hgrow.size
                  have HO4 : Hid _ := hown4
                  have HS4 : Hid (HasSt w4 g' t) := hst4
                  have HB4 : Hid _ := hb4
                  have hz5 : go ≤ w4.heap.size := by simp at hz4; omega
                  clear hown' hgrow hob hown4 hb4 hst4 hz4 HOWN HST hbel c1
                  go_wp2_with fail
                  go_roundw
                  case rel => exact ⟨j + 1, by omega, by go_num, HO4.out, HS4.out, HB4.out, hz5⟩
                  case measure => simp [intOf]; omega
                · have e8 : j = 8 := by omega
                  subst e8
                  have hne : tellTo t 8 ≠ [] := by
                    intro h
                    have := length_tellTo t 8 (by omega)
                    rw [h] at this
                    simp at this
                  have hcv := own_text (P := Tryd.prog) 44 9 5 Join.under Join.under8 Join.underS hne hown
                  rw [← HDK.out] at hcv
                  have HBE : Hid _ := hbel
                  clear hne hown hst hbel
                  go_wp2_with fail
                  go_ret
                  exact ⟨rfl, HBE.out⟩
end Go.Proofs.YtjgkekgieodhnabDoor.Sha
