/- What the program's blockNumbers answers: the 64 numbers of a block. -/
import Derived.Test.YtjgkekgieodhnabDoorImplTurn
import Derived.BigRegion
import Derived.Deep.Cut
import Derived.Deep.RegionWith
import Derived.Test.YtjgkekgieodhnabDoorTextsA
namespace Go.Proofs.YtjgkekgieodhnabDoor.Sha
open Go.RowKit Go.Proofs.YtjgkekgieodhnabDoor.Mem

theorem infoW : (Tryd.prog.info? 76).map (·.size) = some 64 := by kernel_rfl
theorem underW : Tryd.prog.underlying 76 = some (.array 64 59) := by kernel_rfl

theorem byte_bits (b : ByteArray) (k : Nat) (x : Nat) (i0 : k < b.size) : bits .or .u32 ((x : Int) * 256 % 4294967296) ((b[k].toNat : Int) % 4294967296) = (((x * 256 % 4294967296) ||| (b[k]?.getD 0).toNat : Nat) : Int) := by
  have h0 := byte_lt b[k]
  have w0 : b[k]?.getD 0 = b[k] := by simp [i0]
  rw [w0]
  generalize b[k].toNat = y at *
  have e0 : (x : Int) * 256 % 4294967296 = ((x * 256 % 4294967296 : Nat) : Int) := by omega
  have e1 : (y : Int) % 4294967296 = (y : Int) := by omega
  rw [e0, e1, or32 (Nat.mod_lt _ (by omega)) (by omega)]

theorem fill_byte {wr : World} {g k : Nat} {b : ByteArray} {x : Int} {e : TypeId} (h : HasRow wr g (u32s (wcs b k)) e) (hk : k < 64) (hx : x = (((wc b (k / 4) k * 256 % 4294967296) ||| (b[k]?.getD 0).toNat : Nat) : Int)) :
    HasRow (wr.setCell ⟨g, k / 4, none⟩ (.int .u32 x)) g (u32s (wcs b (k + 1))) e := by
  have h2 := row_set h (k / 4) (.int .u32 x)
  rw [hx, wcs_set b k hk] at h2
  rw [hx]
  exact h2

theorem shift0 (x : Nat) (w : World) (hx : x < 4294967296) :
    Calls Tryd.prog 57 #[.int .u32 x, .int .i64 7, .int .i64 18, .int .i64 3] w fun e w' => e = .returned (.int .u32 (sm0 x : Nat)) ∧ ∃ m, w' = w.drewN m :=
  implShifted_any x 7 18 3 w hx (by omega) (by omega) (by omega) (by omega) (by omega) (by omega)
theorem shift1 (x : Nat) (w : World) (hx : x < 4294967296) :
    Calls Tryd.prog 57 #[.int .u32 x, .int .i64 17, .int .i64 19, .int .i64 10] w fun e w' => e = .returned (.int .u32 (sm1 x : Nat)) ∧ ∃ m, w' = w.drewN m :=
  implShifted_any x 17 19 10 w hx (by omega) (by omega) (by omega) (by omega) (by omega) (by omega)

set_option maxRecDepth 100000 in
set_option maxHeartbeats 4000000 in
theorem implWords_any (g o n c : Nat) (b : ByteArray) (w : World) (hb : b.size = 64) (hn : 64 ≤ n) (hn2 : n ≤ 1000000)
    (hcell : ∀ j (h : j < 64), w.cell? ⟨g, o + j, none⟩ = some (.int .u8 ((b[j]'(by omega)).toNat : Nat))) :
    Calls Tryd.prog 54 #[.slice (some ⟨g, o, none⟩) n c] w fun e w' => e = .returned (.agg (u32s (wsOf b)).toArray) ∧ Below w.heap.size w w' := by
  have HC : Hid (∀ j (h : j < 64), w.cell? ⟨g, o + j, none⟩ = some (.int .u8 ((b[j]'(by omega)).toNat : Nat))) := hcell
  have HB : Hid (b.size = 64) := hb
  clear hcell
  go_enter Tryd.func54, Tryd.ntmps54
  go_wp2
  go_loopw [8] (fun i wr => ∃ k : Nat, k ≤ 64 ∧ i = .int .i64 k ∧ HasRow wr (w.heap.size + 1) (u32s (wcs b k)) 76 ∧ HasRow wr w.heap.size (u32s (List.replicate 64 0)) 76 ∧ Below w.heap.size w wr) (fun i _ => 64 - (intOf i).toNat)
  case atStart => exact ⟨0, by omega, rfl, by rw [wcs_start]; exact row_new_at (w.alloc _) (u32s (List.replicate 64 0)) 76 _ (by simp), row_alloc (row_new w (u32s (List.replicate 64 0)) 76) _, ((Below.refl _ _).alloc (Nat.le_refl _) _).alloc (by simp) _⟩
  case round =>
    obtain ⟨k, hk, rfl, hrow, hrow0, hbel⟩ := hrel
    have HROW : Hid (HasRow wr (w.heap.size + 1) (u32s (wcs b k)) 76) := hrow
    have HROW0 : Hid (HasRow wr w.heap.size (u32s (List.replicate 64 0)) 76) := hrow0
    by_cases hlt : k < 64
    · have hz := HB.out
      have i0 : k < b.size := by omega
      have hc := bel_cell hbel (HC.out k hlt)
      have hc1 := Mem.cell_of_row hrow (k / 4)
      rw [wcs_cell b k (k / 4) (by omega)] at hc1
      have hfz := Mem.frozen_of_row hrow (k / 4)
      have q0 : ((k : Int) / 4).toNat = k / 4 := by omega
      have p0 : (0 : Int) ≤ (k : Int) / 4 := by omega
      have p1 : (k : Int) / 4 < 64 := by omega
      have p2 : (k : Int) < (n : Int) := by omega
      have HX : Hid (bits .or .u32 ((wc b (k / 4) k : Int) * 256 % 4294967296) ((b[k].toNat : Int) % 4294967296) = (((wc b (k / 4) k * 256 % 4294967296) ||| (b[k]?.getD 0).toNat : Nat) : Int)) := byte_bits b k _ i0
      clear hrow hrow0
      go_wp2
      go_region
      go_wp2
      go_roundw
      case rel => exact ⟨k + 1, by omega, by go_num, row_drew (fill_byte HROW.out hlt HX.out), row_drew (row_other HROW0.out _ _ (by simp)), (hbel.setCell (p := ⟨w.heap.size + 1, k / 4, none⟩) (by simp) _).drew⟩
      case measure => simp [intOf]; omega
    · have e64 : k = 64 := by omega
      subst e64
      have HW : Hid (HasRow wr (w.heap.size + 1) (wRow b 16) 76) := by
        have := HROW.out
        rw [wRow_wcs] at this
        exact this
      clear hrow hrow0 HROW hk
      go_wp2_with fail
      go_loopw [26] (fun i wr => ∃ m : Nat, m ≤ 48 ∧ i = .int .i64 m ∧ HasRow wr (w.heap.size + 1) (wRow b (m + 16)) 76 ∧ HasRow wr w.heap.size (u32s (List.replicate 64 0)) 76 ∧ Below w.heap.size w wr) (fun i _ => 48 - (intOf i).toNat)
      case atStart => exact ⟨0, by omega, rfl, HW.out, HROW0.out, hbel⟩
      case round =>
        clear hbel HW HROW0 hlt
        obtain ⟨m, hm, rfl, hrow, hrow0, hbel⟩ := hrel
        have HROW : Hid (HasRow wr (w.heap.size + 1) (wRow b (m + 16)) 76) := hrow
        have HROW0 : Hid (HasRow wr w.heap.size (u32s (List.replicate 64 0)) 76) := hrow0
        by_cases hlt : m < 48
        · have c0 := w_cell hrow (by omega) m (by omega)
          have c1 := w_cell hrow (by omega) (m + 1) (by omega)
          have c9 := w_cell hrow (by omega) (m + 9) (by omega)
          have c14 := w_cell hrow (by omega) (m + 14) (by omega)
          have hz := z_cell hrow (by omega) (by omega)
          have hfz := Mem.frozen_of_row hrow (m + 16)
          have l1 := wAt_lt b (m + 16) (m + 1)
          have l14 := wAt_lt b (m + 16) (m + 14)
          have HN : Hid (wNext (wAt b (m + 16)) = _) := next_is b (m + 16) (by omega)
          rw [show m + 16 - 16 = m by omega, show m + 16 - 15 = m + 1 by omega, show m + 16 - 7 = m + 9 by omega, show m + 16 - 2 = m + 14 by omega] at HN
          generalize (wAt b (m + 16)).getD m 0 = x0 at *
          generalize (wAt b (m + 16)).getD (m + 1) 0 = x1 at *
          generalize (wAt b (m + 16)).getD (m + 9) 0 = x9 at *
          generalize (wAt b (m + 16)).getD (m + 14) 0 = x14 at *
          have q1 : ((m : Int) + 1).toNat = m + 1 := by omega
          have q9 : ((m : Int) + 9).toNat = m + 9 := by omega
          have q14 : ((m : Int) + 14).toNat = m + 14 := by omega
          have q16 : ((m : Int) + 16).toNat = m + 16 := by omega
          have p0 : (0 : Int) ≤ (m : Int) := by omega
          have p1 : (0 : Int) ≤ (m : Int) + 1 := by omega
          have p9 : (0 : Int) ≤ (m : Int) + 9 := by omega
          have p14 : (0 : Int) ≤ (m : Int) + 14 := by omega
          have p16 : (0 : Int) ≤ (m : Int) + 16 := by omega
          have r0 : (m : Int) < 64 := by omega
          have r1 : (m : Int) + 1 < 64 := by omega
          have r9 : (m : Int) + 9 < 64 := by omega
          have r14 : (m : Int) + 14 < 64 := by omega
          have r16 : (m : Int) + 16 < 64 := by omega
          clear hrow hrow0
          go_wp2_with (first | (go_at_call_of 57 (Value.int IntKind.i64 7); refine (shift0 _ _ l1).mono ?_; rintro e w' ⟨rfl, n1, rfl⟩) | (go_at_call_of 57 (Value.int IntKind.i64 17); refine (shift1 _ _ l14).mono ?_; rintro e w' ⟨rfl, n2, rfl⟩))
          go_region
          go_wp2
          go_roundw
          case rel => (repeat apply Exists.intro); exact ⟨⟨m + 1, by omega, by go_num, by rw [show m + 1 + 16 = m + 16 + 1 by omega]; exact fill_next HROW.out (by omega) (by omega) (by rw [HN.out]; omega), row_other HROW0.out _ _ (by simp), ((bel_drewN hbel _).setCell (p := ⟨w.heap.size + 1, m + 16, none⟩) (by simp) _)⟩, rfl⟩
          case measure => simp [intOf]; omega
        · have e48 : m = 48 := by omega
          subst e48
          have hr1 : HasRow wr (w.heap.size + 1) (u32s (wsOf b)) 76 := by have := HROW.out; rw [wRow_end] at this; exact this
          have HI : Hid ((Tryd.prog.info? 76).map (·.size) = some (u32s (wsOf b)).length) := by unfold Hid; rw [length_u32s, length_wsOf]; exact infoW
          have HL : Hid ((u32s (List.replicate 64 0)).length = (u32s (wsOf b)).length) := by unfold Hid; rw [length_u32s, length_u32s, length_wsOf]; rfl
          have HR1 : Hid _ := hr1
          clear hrow hrow0 hm hlt hr1 HROW
          go_upto_region 14 with fail
          refine wp_region_lit ?_
          refine row_load_wp rfl _ _ (by rfl) _ (by rfl) HR1.out underW HI.out ?_
          refine row_store_wp rfl _ _ _ (by rfl) _ (by rfl) (by rfl) HROW0.out HI.out HL.out (u32s_one _) ?_
          intro W' hr' _ hbb _
          refine wpList_nil ?_
          have hl2 := load_row (P := Tryd.prog) hr' underW HI.out
          have HB2 : Hid (Below w.heap.size w W') := hbb _ _ (Nat.le_refl _) hbel
          clear hr' hbb hbel HR1 HROW0
          go_wp2_with fail
          exact bodyPost_ret (v := .agg (u32s (wsOf b)).toArray) (results_cell Tryd.results54 rfl hl2) rfl ⟨rfl, HB2.out⟩
end Go.Proofs.YtjgkekgieodhnabDoor.Sha
