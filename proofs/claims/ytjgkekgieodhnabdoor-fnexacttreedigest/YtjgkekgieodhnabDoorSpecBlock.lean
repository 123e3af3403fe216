/- What the model's l02Block answers: the state behind one more block. -/
import Derived.Test.YtjgkekgieodhnabDoorSpecTurn
import Derived.Test.YtjgkekgieodhnabDoorTextsA
import Derived.Test.YtjgkekgieodhnabDoorShaRaw
import Derived.BigRegion
import Derived.Deep.Cut
import Derived.Deep.RegionWith
import Derived.Deep.RegionHeld3
import Derived.Deep.DrawnRows
import Derived.Deep.QuietTactic
import Derived.BigQuiet
import Derived.Deep.AppendLies
namespace Go.Proofs.YtjgkekgieodhnabDoor.Sha
open Go.RowKit Go.Proofs.YtjgkekgieodhnabDoor.Mem

theorem info32 : (Tryd.prog.info? 59).map (fun i => (i.zero, i.size, i.bytes)) = some (some (.int .u32 0), 1, 4) := by kernel_rfl
theorem info64 : (Tryd.prog.info? 2).map (fun i => (i.zero, i.size, i.bytes)) = some (some (.int .i64 0), 1, 8) := by kernel_rfl
theorem under64 : Tryd.prog.underlying 47 = some (.slice 2) := by kernel_rfl
theorem under32 : Tryd.prog.underlying 58 = some (.slice 59) := by kernel_rfl

theorem make64 (w : World) : ∃ W1, (Instr.makeSlice 58 (.int .i64 64) (.int .i64 64)).run Tryd.prog w = .ok (.slice (some ⟨w.heap.size, 0, none⟩) 64 64) W1 ∧ HasRow W1 w.heap.size (List.replicate 64 (.int .u32 0)) 59 ∧ Below w.heap.size w W1 ∧ W1.heap.size = w.heap.size + 1 := by
  refine ⟨_, run_make_row' (P := Tryd.prog) 58 59 (.int .u32 0) 4 under32 info32 rfl .i64 .i64 64 (by omega) (by omega) w, ?_, (Below.refl _ _).alloc (Nat.le_refl _) _, by simp⟩
  unfold HasRow
  rw [← toList_madeCells_one]
  show (w.heap.push _)[w.heap.size]? = _
  simp

theorem turn7 (x : Nat) (w : World) (h : x < 4294967296) : Calls Tryd.prog 36 #[.int .u32 x, .int .u64 7] w fun e w' => e = .returned (.int .u32 (rotr 7 x : Nat)) ∧ w = w' := specTurn_any x 7 w h (by omega) (by omega)
theorem turn18 (x : Nat) (w : World) (h : x < 4294967296) : Calls Tryd.prog 36 #[.int .u32 x, .int .u64 18] w fun e w' => e = .returned (.int .u32 (rotr 18 x : Nat)) ∧ w = w' := specTurn_any x 18 w h (by omega) (by omega)
theorem turn17 (x : Nat) (w : World) (h : x < 4294967296) : Calls Tryd.prog 36 #[.int .u32 x, .int .u64 17] w fun e w' => e = .returned (.int .u32 (rotr 17 x : Nat)) ∧ w = w' := specTurn_any x 17 w h (by omega) (by omega)
theorem turn19 (x : Nat) (w : World) (h : x < 4294967296) : Calls Tryd.prog 36 #[.int .u32 x, .int .u64 19] w fun e w' => e = .returned (.int .u32 (rotr 19 x : Nat)) ∧ w = w' := specTurn_any x 19 w h (by omega) (by omega)

theorem keep_cell {W : World} {g m j : Nat} {v x : Value} (hne : j ≠ m) (h : W.cell? ⟨g, j, none⟩ = some x) : (W.setCell ⟨g, m, none⟩ v).drew.cell? ⟨g, j, none⟩ = some x := by
  show (W.setCell ⟨g, m, none⟩ v).cell? ⟨g, j, none⟩ = some x
  rw [World.cell?_setCell_other W _ _ v (by intro e; injection e with _ e2 _; exact hne e2.symm)]
  exact h

theorem sm0_raw {x : Nat} (h : x < 4294967296) : bits .xor .u32 ((rotr 7 x ^^^ rotr 18 x : Nat) : Int) ((x : Int) / 8) = ((sm0 x : Nat) : Int) := by
  have := xor32 (xor_lt (rotr_lt h 7) (rotr_lt h 18)) (div_lt h 3)
  simpa [sm0] using this
theorem sm1_raw {x : Nat} (h : x < 4294967296) : bits .xor .u32 ((rotr 17 x ^^^ rotr 19 x : Nat) : Int) ((x : Int) / 1024) = ((sm1 x : Nat) : Int) := by
  have := xor32 (xor_lt (rotr_lt h 17) (rotr_lt h 19)) (div_lt h 10)
  simpa [sm1] using this
theorem wrap32 (x : Int) : IntKind.u32.wrap x = x % 4294967296 := rfl
theorem sum4w (a b c d : Nat) : IntKind.u32.wrap (IntKind.u32.wrap (IntKind.u32.wrap ((a : Int) + (b : Int)) + (c : Int)) + (d : Int)) = (((a + b + c + d) % 4294967296 : Nat) : Int) := by
  rw [wrap32, wrap32, wrap32]; omega

/-- The eight numbers of a state, as the model keeps them. -/
def HasSt (w : World) (g : Nat) (s : St) : Prop := ∀ j, j < 8 → w.cell? ⟨g, j, none⟩ = some (.int .i64 ((listOf s).getD j 0 : Nat))

theorem specKeys_row (w : World) :
    Calls Tryd.prog 37 #[] w fun e w' => e = .returned (.slice (some ⟨w.heap.size, 0, none⟩) 64 64) ∧ HasRow w' w.heap.size (u32s keys) 59 ∧ Below w.heap.size w w' ∧ w'.heap.size = w.heap.size + 1 :=
  (specKeys_any w).mono fun _ _ h => ⟨h.1, by rw [h.2]; exact row_new w _ _, by rw [h.2]; exact (Below.refl _ _).alloc (Nat.le_refl _) _, by rw [h.2]; simp⟩

theorem row_lt {W : World} {g : Nat} {cs : List Value} {e : TypeId} (h : HasRow W g cs e) : g < W.heap.size := by
  unfold HasRow at h
  exact (Array.getElem?_eq_some_iff.1 h).1
theorem u32s_at (l : List Nat) (k : Nat) (h : k < l.length) : (u32s l)[k]? = some (.int .u32 (l.getD k 0 : Nat)) := by
  simp [u32s, List.getElem?_eq_getElem h]
theorem turn6 (x : Nat) (w : World) (h : x < 4294967296) : Calls Tryd.prog 36 #[.int .u32 x, .int .u64 6] w fun e w' => e = .returned (.int .u32 (rotr 6 x : Nat)) ∧ w = w' := specTurn_any x 6 w h (by omega) (by omega)
theorem turn11 (x : Nat) (w : World) (h : x < 4294967296) : Calls Tryd.prog 36 #[.int .u32 x, .int .u64 11] w fun e w' => e = .returned (.int .u32 (rotr 11 x : Nat)) ∧ w = w' := specTurn_any x 11 w h (by omega) (by omega)
theorem turn25 (x : Nat) (w : World) (h : x < 4294967296) : Calls Tryd.prog 36 #[.int .u32 x, .int .u64 25] w fun e w' => e = .returned (.int .u32 (rotr 25 x : Nat)) ∧ w = w' := specTurn_any x 25 w h (by omega) (by omega)
theorem turn2 (x : Nat) (w : World) (h : x < 4294967296) : Calls Tryd.prog 36 #[.int .u32 x, .int .u64 2] w fun e w' => e = .returned (.int .u32 (rotr 2 x : Nat)) ∧ w = w' := specTurn_any x 2 w h (by omega) (by omega)
theorem turn13 (x : Nat) (w : World) (h : x < 4294967296) : Calls Tryd.prog 36 #[.int .u32 x, .int .u64 13] w fun e w' => e = .returned (.int .u32 (rotr 13 x : Nat)) ∧ w = w' := specTurn_any x 13 w h (by omega) (by omega)
theorem turn22 (x : Nat) (w : World) (h : x < 4294967296) : Calls Tryd.prog 36 #[.int .u32 x, .int .u64 22] w fun e w' => e = .returned (.int .u32 (rotr 22 x : Nat)) ∧ w = w' := specTurn_any x 22 w h (by omega) (by omega)

theorem own_new (W : World) (g : Nat) (e : TypeId) (hg : g = W.heap.size) : (W.alloc (.cells #[] e)).ownsRow g e 1 (.slice (some ⟨g, 0, none⟩) 0 0) 0 [] := by
  subst hg
  exact W.ownsRow_made #[] 0 (Nat.le_refl _) (by unfold maxLen; omega) (by simp)
theorem cell_new8 (W : World) (t : St) (o : Obj) (g q : Nat) (hg : W.heap.size = g) (hq : q < 8) : ((W.alloc (.cells #[.int .u32 (t.a : Nat), .int .u32 (t.b : Nat), .int .u32 (t.c : Nat), .int .u32 (t.d : Nat), .int .u32 (t.e : Nat), .int .u32 (t.f : Nat), .int .u32 (t.g : Nat), .int .u32 (t.h : Nat)] 59)).alloc o).cell? ⟨g, q, none⟩ = some (.int .u32 ((listOf t).getD q 0 : Nat)) := by
  subst hg
  have h := row_alloc (row_new W (u32s (listOf t)) 59) o
  exact (Mem.cell_of_row h q).trans (st_cell t q hq)
theorem st_lt {s : St} (h : s.Small) (j : Nat) : (listOf s).getD j 0 < 4294967296 := by
  obtain ⟨s1, s2, s3, s4, s5, s6, s7, s8⟩ := h
  match j with
  | 0 => exact s1
  | 1 => exact s2
  | 2 => exact s3
  | 3 => exact s4
  | 4 => exact s5
  | 5 => exact s6
  | 6 => exact s7
  | 7 => exact s8
  | j + 8 => simp [listOf]

theorem i64s_take (R : St) (j : Nat) (h : j < 8) : i64s ((listOf R).take (j + 1)) = i64s ((listOf R).take j) ++ [.int .i64 ((listOf R).getD j 0 : Nat)] := by
  match j, h with
  | 0, _ => rfl
  | 1, _ => rfl
  | 2, _ => rfl
  | 3, _ => rfl
  | 4, _ => rfl
  | 5, _ => rfl
  | 6, _ => rfl
  | 7, _ => rfl
theorem i64_cell (t : St) (j : Nat) (hj : j < 8) : (i64s (listOf t))[j]? = some (.int .i64 ((listOf t).getD j 0 : Nat)) := by
  match j, hj with
  | 0, _ => rfl
  | 1, _ => rfl
  | 2, _ => rfl
  | 3, _ => rfl
  | 4, _ => rfl
  | 5, _ => rfl
  | 6, _ => rfl
  | 7, _ => rfl
theorem sum_wrap (x1 x2 : Nat) : IntKind.i64.wrap (IntKind.u32.wrap (IntKind.u32.wrap (x1 : Int) + (x2 : Int))) = (((x1 + x2) % 4294967296 : Nat) : Int) := by
  rw [wrap32, wrap32, IntWalk.i64_in _ ⟨by omega, by omega⟩]
  omega

attribute [local go_sem ↓] Go.wp_at_zero Go.wp_at_succ

set_option maxRecDepth 100000 in
set_option maxHeartbeats 4000000 in
theorem specBlock_any (s : St) (g c : Nat) (b : ByteArray) (w : World) (hs : s.Small) (hb : b.size = 64) (hst : HasSt w g s) :
    Calls Tryd.prog 22 #[.slice (some ⟨g, 0, none⟩) 8 c, .string b] w fun e w' => (∃ g' c', e = .returned (.slice (some ⟨g', 0, none⟩) 8 c') ∧ HasSt w' g' (blockS s b)) ∧ Below w.heap.size w w' := by
  obtain ⟨W1, hmk, hr, hb1, hz1⟩ := make64 w
  have hb64 : (64 : Int) ≤ (b.size : Int) := by omega
  have HR : Hid (HasRow W1 w.heap.size (List.replicate 64 (.int .u32 0)) 59) := hr
  have HB : Hid (b.size = 64) := hb
  have HS : Hid s.Small := hs
  have HG : Hid (∀ j, j < 8 → w.cell? ⟨g, j, none⟩ = some (.int .i64 ((listOf s).getD j 0 : Nat))) := hst
  obtain ⟨R, HR0⟩ : ∃ R, Hid (blockS s b = R) := ⟨_, rfl⟩
  have HR2 : Hid (∀ ws, ws = wsOf b → addSt s (rnds ws 64 s) = R) := fun ws h => by rw [h]; exact HR0
  rw [show blockS s b = R from HR0]
  clear hr hb hs hst HR0
  go_enter Tryd.func22, Tryd.ntmps22
  go_wp2
  go_loopw [6] (fun i wr => ∃ k : Nat, k ≤ 16 ∧ i = .int .i64 k ∧ HasRow wr w.heap.size (u32s (words b k) ++ List.replicate (64 - k) (.int .u32 0)) 59 ∧ Below w.heap.size w wr) (fun i _ => 16 - (intOf i).toNat)
  case atStart => exact ⟨0, by omega, rfl, HR.out, hb1⟩
  case round =>
    obtain ⟨k, hk, rfl, hrow, hbel⟩ := hrel
    have HROW : Hid (HasRow wr w.heap.size (u32s (words b k) ++ List.replicate (64 - k) (.int .u32 0)) 59) := hrow
    by_cases hlt : k < 16
    · have hz := HB.out
      have hc := Mem.cell_of_row hrow k
      have hlen : (u32s (words b k)).length = k := by simp [u32s, words]
      rw [List.getElem?_append_right (by omega), hlen, Nat.sub_self] at hc
      have hfz := Mem.frozen_of_row hrow k
      have hc0 : wr.cell? ⟨w.heap.size, k, none⟩ = some (.int .u32 0) := by
        rw [hc, show 64 - k = (63 - k) + 1 by omega, List.replicate_succ]; rfl
      clear hc hrow hlen
      have i0 : 4 * k < b.size := by omega
      have i1 : 4 * k + 1 < b.size := by omega
      have i2 : 4 * k + 2 < b.size := by omega
      have i3 : 4 * k + 3 < b.size := by omega
      have j0 : 4 * (k : Int) < (b.size : Int) := by omega
      have j1 : 4 * (k : Int) + 1 < (b.size : Int) := by omega
      have j2 : 4 * (k : Int) + 2 < (b.size : Int) := by omega
      have j3 : 4 * (k : Int) + 3 < (b.size : Int) := by omega
      have p0 : 0 ≤ 4 * (k : Int) := by omega
      have p1 : 0 ≤ 4 * (k : Int) + 1 := by omega
      have p2 : 0 ≤ 4 * (k : Int) + 2 := by omega
      have p3 : 0 ≤ 4 * (k : Int) + 3 := by omega
      have q0 : (4 * (k : Int)).toNat = 4 * k := by omega
      have q1 : (4 * (k : Int) + 1).toNat = 4 * k + 1 := by omega
      have q2 : (4 * (k : Int) + 2).toNat = 4 * k + 2 := by omega
      have q3 : (4 * (k : Int) + 3).toNat = 4 * k + 3 := by omega
      clear hz
      go_wp2
      go_region
      go_wp2
      go_roundw
      case rel => exact ⟨k + 1, by omega, by go_num, fill_word HROW.out hlt (word_bits b k i0 i1 i2 i3), (hbel.setCell (p := ⟨w.heap.size, k, none⟩) (Nat.le_refl _) _).drew⟩
      case measure => simp [intOf]; omega
    · have e16 : k = 16 := by omega
      subst e16
      have HROWW : Hid (HasRow wr w.heap.size (wRow b 16) 59) := HROW.out
      clear hrow hk hmk hb1 HR HROW
      go_wp2_with fail
      go_loopw [7] (fun i wr => ∃ m : Nat, 16 ≤ m ∧ m ≤ 64 ∧ i = .int .i64 m ∧ HasRow wr w.heap.size (wRow b m) 59 ∧ Below w.heap.size w wr) (fun i _ => 64 - (intOf i).toNat)
      case atStart => exact ⟨16, by omega, by omega, rfl, HROWW.out, hbel⟩
      case round =>
        obtain ⟨m, hm1, hm2, rfl, hrow, hbel2⟩ := hrel
        clear hbel HROWW
        have HROW2 : Hid (HasRow wr w.heap.size (wRow b m) 59) := hrow
        by_cases hlt2 : m < 64
        · have c16 := w_cell hrow hm1 (m - 16) (by omega)
          have c15 := w_cell hrow hm1 (m - 15) (by omega)
          have c7 := w_cell hrow hm1 (m - 7) (by omega)
          have c2 := w_cell hrow hm1 (m - 2) (by omega)
          have hfz := Mem.frozen_of_row hrow m
          have hc0 := z_cell hrow hm1 hlt2
          have hl15 := wAt_lt b m (m - 15)
          have hl2 := wAt_lt b m (m - 2)
          have HN : Hid (wNext (wAt b m) = _) := next_is b m hm1
          generalize (wAt b m).getD (m - 16) 0 = w16 at *
          generalize (wAt b m).getD (m - 15) 0 = w15 at *
          generalize (wAt b m).getD (m - 7) 0 = w7 at *
          generalize (wAt b m).getD (m - 2) 0 = w2 at *
          clear hrow
          have x16 : IntKind.i64.wrap ((m : Int) - 16) = (m : Int) - 16 := IntWalk.i64_in _ ⟨by omega, by omega⟩
          have x7 : IntKind.i64.wrap ((m : Int) - 7) = (m : Int) - 7 := IntWalk.i64_in _ ⟨by omega, by omega⟩
          have y16 : ((m : Int) - 16).toNat = m - 16 := by omega
          have y15 : ((m : Int) - 15).toNat = m - 15 := by omega
          have y7 : ((m : Int) - 7).toNat = m - 7 := by omega
          have y2 : ((m : Int) - 2).toNat = m - 2 := by omega
          have v16 : 0 ≤ (m : Int) - 16 := by omega
          have v7 : 0 ≤ (m : Int) - 7 := by omega
          have u16 : (m : Int) - 16 < 64 := by omega
          have u7 : (m : Int) - 7 < 64 := by omega
          have n16 : (16 : Int) ≤ (m : Int) := by omega
          have n7 : (7 : Int) ≤ (m : Int) := by omega
          have l16 : (m : Int) < 64 + 16 := by omega
          have l7 : (m : Int) < 64 + 7 := by omega
          have l16' : (m : Int) < 80 := by omega
          have l7' : (m : Int) < 71 := by omega
          have a1 := xor32 (rotr_lt hl15 7) (rotr_lt hl15 18)
          have a2 := xor32 (rotr_lt hl2 17) (rotr_lt hl2 19)
          have a3 := sm0_raw hl15
          have a4 := sm1_raw hl2
          go_wp2_with fail
          go_region_held3 (fun w' => w'.cell? ⟨w.heap.size, m - 16, none⟩ = some (.int .u32 (w16 : Int)) ∧ w'.cell? ⟨w.heap.size, m - 7, none⟩ = some (.int .u32 (w7 : Int))) (first | (refine ⟨keep_cell ?_ ?_, keep_cell ?_ ?_⟩ <;> first | assumption | omega) | go_keep)
            (first | (go_at_call_of 36 (Value.int IntKind.u64 7); refine (turn7 _ _ hl15).mono ?_; rintro e w' ⟨rfl, rfl⟩) | (go_at_call_of 36 (Value.int IntKind.u64 18); refine (turn18 _ _ hl15).mono ?_; rintro e w' ⟨rfl, rfl⟩) | (go_at_call_of 36 (Value.int IntKind.u64 17); refine (turn17 _ _ hl2).mono ?_; rintro e w' ⟨rfl, rfl⟩) | (go_at_call_of 36 (Value.int IntKind.u64 19); refine (turn19 _ _ hl2).mono ?_; rintro e w' ⟨rfl, rfl⟩))
          go_wp2_with fail
          go_roundw
          case rel => (repeat apply Exists.intro); exact ⟨⟨m + 1, by omega, by omega, by go_num, row_drew (fill_next HROW2.out hm1 hlt2 (by rw [HN.out]; exact sum4w _ _ _ _)), (hbel2.setCell (p := ⟨w.heap.size, m, none⟩) (Nat.le_refl _) _).drew⟩, rfl⟩
          case measure => simp [intOf]; omega
        · have e64 : m = 64 := by omega
          obtain ⟨ws, hws⟩ : ∃ ws, ws = wsOf b := ⟨_, rfl⟩
          have HW : Hid (HasRow wr w.heap.size (u32s ws) 59) := by
            have := HROW2.out
            rw [e64, wRow_end, ← hws] at this
            exact this
          have HT : Hid (addSt s (rnds ws 64 s) = R) := HR2.out ws hws
          have HLW : Hid (ws.length = 64) := by unfold Hid; rw [hws]; exact length_wsOf b
          have HLT : Hid (∀ k, ws.getD k 0 < 4294967296) := by unfold Hid; rw [hws]; exact fun k => wAt_lt b 64 k
          have g0 := bel_cell hbel2 (HG.out 0 (by omega))
          have g1 := bel_cell hbel2 (HG.out 1 (by omega))
          have g2 := bel_cell hbel2 (HG.out 2 (by omega))
          have g3 := bel_cell hbel2 (HG.out 3 (by omega))
          have g4 := bel_cell hbel2 (HG.out 4 (by omega))
          have g5 := bel_cell hbel2 (HG.out 5 (by omega))
          have g6 := bel_cell hbel2 (HG.out 6 (by omega))
          have g7 := bel_cell hbel2 (HG.out 7 (by omega))
          obtain ⟨s1, s2, s3, s4, s5, s6, s7, s8⟩ := HS.out
          have m1 : (s.a : Int) % 4294967296 = (s.a : Int) := by omega
          have m2 : (s.b : Int) % 4294967296 = (s.b : Int) := by omega
          have m3 : (s.c : Int) % 4294967296 = (s.c : Int) := by omega
          have m4 : (s.d : Int) % 4294967296 = (s.d : Int) := by omega
          have m5 : (s.e : Int) % 4294967296 = (s.e : Int) := by omega
          have m6 : (s.f : Int) % 4294967296 = (s.f : Int) := by omega
          have m7 : (s.g : Int) % 4294967296 = (s.g : Int) := by omega
          have m8 : (s.h : Int) % 4294967296 = (s.h : Int) := by omega
          simp only [listOf, List.getD_cons_zero, List.getD_cons_succ] at g0 g1 g2 g3 g4 g5 g6 g7
          have HBEL : Hid (Below w.heap.size w wr) := hbel2
          have hgw := hbel2.size
          subst e64
          clear hws hrow HROW2 HR2 hm1 hm2 hlt2 hbel2
          go_wp2_with fail
          go_quiet (fail)
          go_wp2_with fail
          go_quiet (fail)
          go_upto_region 15 with (go_at_call 37; refine (specKeys_row _).mono ?_; rintro e w2 ⟨rfl, hrk, hbk, hzk⟩)
          have hlw := row_lt HW.out
          have hrw2 : HasRow w2 w.heap.size (u32s ws) 59 := row_below (row_drewN HW.out _) hbk hlw
          have hbw2 : Below w.heap.size w w2 := (bel_drewN HBEL.out _).trans (hbk.mono hgw)
          have HRK : Hid (HasRow w2 wr.heap.size (u32s keys) 59) := hrk
          have HRW : Hid (HasRow w2 w.heap.size (u32s ws) 59) := hrw2
          have HBW : Hid (Below w.heap.size w w2) := hbw2
          generalize wr.heap.size = gk at *
          clear hrk hbk hzk hrw2 hbw2 HW HBEL g0 g1 g2 g3 g4 g5 g6 g7 m1 m2 m3 m4 m5 m6 m7 m8 s1 s2 s3 s4 s5 s6 s7 s8
          go_wp2_with fail
          go_loopw [10, 11, 12, 13, 14, 15, 16, 17, 19] (fun a b1 c1 d e f g1 h i wr => ∃ k : Nat, k ≤ 64 ∧ i = .int .i64 k ∧ a = .int .u32 ((rnds ws k s).a : Nat) ∧ b1 = .int .u32 ((rnds ws k s).b : Nat) ∧ c1 = .int .u32 ((rnds ws k s).c : Nat) ∧ d = .int .u32 ((rnds ws k s).d : Nat) ∧ e = .int .u32 ((rnds ws k s).e : Nat) ∧ f = .int .u32 ((rnds ws k s).f : Nat) ∧ g1 = .int .u32 ((rnds ws k s).g : Nat) ∧ h = .int .u32 ((rnds ws k s).h : Nat) ∧ HasRow wr w.heap.size (u32s ws) 59 ∧ HasRow wr gk (u32s keys) 59 ∧ Below w.heap.size w wr) (fun _ _ _ _ _ _ _ _ i _ => 64 - (intOf i).toNat)
          case atStart => exact ⟨0, by omega, rfl, rfl, rfl, rfl, rfl, rfl, rfl, rfl, rfl, HRW.out, HRK.out, HBW.out⟩
          case round =>
            clear HRK HRW HBW
            obtain ⟨k, hk, rfl, rfl, rfl, rfl, rfl, rfl, rfl, rfl, rfl, hrw, hrk, hbel⟩ := hrel
            have HRW : Hid (HasRow wr w.heap.size (u32s ws) 59) := hrw
            have HRK : Hid (HasRow wr gk (u32s keys) 59) := hrk
            have hsm := rnds_small (ws := ws) HS.out k
            by_cases hlt : k < 64
            · have c5 := Mem.cell_of_row hrw k
              rw [u32s_at ws k (by have := HLW.out; omega)] at c5
              have ck := Mem.cell_of_row hrk k
              rw [u32s_at keys k (by show k < 64; exact hlt)] at ck
              have HN : Hid (rnds ws (k + 1) s = rnd (keys.getD k 0) (ws.getD k 0) (rnds ws k s)) := rfl
              generalize rnds ws k s = t at *
              generalize ws.getD k 0 = x5 at *
              generalize keys.getD k 0 = xk at *
              obtain ⟨ta, tb, tc, td, te, tf, tg, th⟩ := t
              obtain ⟨s1, s2, s3, s4, s5, s6, s7, s8⟩ := hsm
              simp only at s1 s2 s3 s4 s5 s6 s7 s8
              have a1 := xor32 (rotr_lt s5 6) (rotr_lt s5 11)
              have a2 : bits .xor .u32 ((rotr 6 te ^^^ rotr 11 te : Nat) : Int) ((rotr 25 te : Nat) : Int) = ((sg1 te : Nat) : Int) := xor32 (xor_lt (rotr_lt s5 6) (rotr_lt s5 11)) (rotr_lt s5 25)
              have b1 := xor32 (rotr_lt s1 2) (rotr_lt s1 13)
              have b2 : bits .xor .u32 ((rotr 2 ta ^^^ rotr 13 ta : Nat) : Int) ((rotr 22 ta : Nat) : Int) = ((sg0 ta : Nat) : Int) := xor32 (xor_lt (rotr_lt s1 2) (rotr_lt s1 13)) (rotr_lt s1 22)
              clear hrw hrk
              simp only
              go_wp2_with fail
              go_quiet ((first | (go_at_call_of 36 (Value.int IntKind.u64 6); exact (turn6 _ _ s5).mono fun _ _ h => ⟨h.1, _, h.2.symm⟩) | (go_at_call_of 36 (Value.int IntKind.u64 11); exact (turn11 _ _ s5).mono fun _ _ h => ⟨h.1, _, h.2.symm⟩) | (go_at_call_of 36 (Value.int IntKind.u64 25); exact (turn25 _ _ s5).mono fun _ _ h => ⟨h.1, _, h.2.symm⟩)))
              rw [t1_raw (ta := ta) (tb := tb) (tc := tc) (td := td) s5 s6 s7]
              obtain ⟨y1, HY⟩ : ∃ y1, Hid (t1 xk x5 ⟨ta, tb, tc, td, te, tf, tg, th⟩ = y1) := ⟨_, rfl⟩
              rw [show t1 xk x5 ⟨ta, tb, tc, td, te, tf, tg, th⟩ = y1 from HY]
              have HN2 : Hid (rnds ws (k + 1) s = ⟨(y1 + t2 ⟨ta, tb, tc, td, te, tf, tg, th⟩) % 4294967296, ta, tb, tc, (td + y1) % 4294967296, te, tf, tg⟩) := by
                unfold Hid; rw [HN.out]; unfold rnd; rw [show t1 xk x5 ⟨ta, tb, tc, td, te, tf, tg, th⟩ = y1 from HY]
              have hy2 := t2_raw (td := td) (te := te) (tf := tf) (tg := tg) (th := th) s1 s2 s3
              generalize t2 ⟨ta, tb, tc, td, te, tf, tg, th⟩ = y2 at *
              clear HY HN a1 a2 c5 ck
              go_wp2_with (first | (go_at_call_of 36 (Value.int IntKind.u64 2); refine (turn2 _ _ s1).mono ?_; rintro e w' ⟨rfl, rfl⟩) | (go_at_call_of 36 (Value.int IntKind.u64 13); refine (turn13 _ _ s1).mono ?_; rintro e w' ⟨rfl, rfl⟩) | (go_at_call_of 36 (Value.int IntKind.u64 22); refine (turn22 _ _ s1).mono ?_; rintro e w' ⟨rfl, rfl⟩))
              refine ⟨⟨k + 1, by omega, by go_num, ?_⟩, by simp [intOf]; omega⟩
              rw [HN2.out]
              exact ⟨by simp, rfl, rfl, rfl, by simp, rfl, rfl, rfl, row_drewN HRW.out _, row_drewN HRK.out _, bel_drewN hbel _⟩
            · have e64 : k = 64 := by omega
              subst e64
              have HAB : Hid (Below w.heap.size w wr) := hbel
              have hg4 := row_lt hrw
              generalize rnds ws 64 s = t at *
              obtain ⟨i0, hi0, hz0, hz1, hz2⟩ := info_parts info64
              clear hrw hrk HRW HRK hk hlt hbel HLW HLT hsm
              go_wp2_with fail
              obtain ⟨gv, HGV⟩ : ∃ gv, Hid (wr.heap.size = gv) := ⟨_, rfl⟩
              have hgv : wr.heap.size = gv := HGV
              have hgv1 : w.heap.size < gv := by omega
              rw [hgv]
              go_loopw [23, 24] (fun out i w4 => ∃ j : Nat, j ≤ 8 ∧ i = .int .i64 j ∧ w4.ownsRow (gv + 1) 2 1 out j (i64s ((listOf R).take j)) ∧ (∀ q, q < 8 → w4.cell? ⟨gv, q, none⟩ = some (.int .u32 ((listOf t).getD q 0 : Nat))) ∧ Below w.heap.size w w4 ∧ gv + 1 ≤ w4.heap.size) (fun _ i _ => 8 - (intOf i).toNat)
              case atStart => exact ⟨0, by omega, rfl, own_new _ _ _ (by simp; omega), fun q hq => cell_new8 wr t _ gv q hgv hq, (HAB.out.alloc (by omega) _).alloc (by simp; omega) _, by simp; omega⟩
              case round =>
                clear HAB hgv HGV hg4
                obtain ⟨j, hj, rfl, hown, hv, hbel, hsz⟩ := hrel
                by_cases hlt : j < 8
                · have c1 := bel_cell hbel (HG.out j hlt)
                  have c2 := hv j hlt
                  have HA : Hid ((listOf R).getD j 0 = ((listOf s).getD j 0 + (listOf t).getD j 0) % 4294967296) := by unfold Hid; rw [← HT.out]; exact add_at s t j hlt
                  have hx1 := st_lt HS.out j
                  generalize (listOf s).getD j 0 = x1 at *
                  have HV : Hid _ := hv
                  have hx2 : Hid ((listOf t).getD j 0 = (listOf t).getD j 0) := rfl
                  obtain ⟨x2, hx2⟩ : ∃ x2, (listOf t).getD j 0 = x2 := ⟨_, rfl⟩
                  rw [hx2] at c2 HA
                  have HX2 : Hid ((listOf t).getD j 0 = x2) := hx2
                  clear hv hx2
                  have m1 : (x1 : Int) % 4294967296 = (x1 : Int) := by omega
                  have j0 : (0 : Int) ≤ (j : Int) := by omega
                  have j1 : (j : Int) < 8 := by omega
                  have hgl := World.block_lt_of_cell? wr _ c1
                  have hgl2 := World.block_lt_of_cell? w _ (HG.out 0 (by omega))
                  have hvl := World.block_lt_of_cell? wr _ c2
                  simp only at hgl hgl2 hvl
                  have HOWN : Hid _ := hown
                  have hob : Hid (∀ k, u23.ownBlock = some k → gv + 1 ≤ k) := fun k hk => (World.ownsRow.lt hown k hk).1
                  have ag : Hid (some g ≠ u23.ownBlock) := fun e => by have := hob.out g e.symm; omega
                  have av : Hid (some gv ≠ u23.ownBlock) := fun e => by have := hob.out gv e.symm; omega
                  have hmax : Hid (j + 1 ≤ maxLen) := by unfold Hid maxLen; omega
                  have hbytes : Hid ((j + 1) * 8 ≤ 140737488355328) := by unfold Hid; omega
                  clear hown
                  go_wp2_with fail
                  go_region_held3 (fun w' => w'.cell? ⟨g, j, none⟩ = some (.int .i64 (x1 : Int)) ∧ w'.cell? ⟨gv, j, none⟩ = some (.int .u32 (x2 : Int)))
                    (first | (refine ⟨?_, ?_⟩ <;> (rw [hgrow.cell_far _ (by simp; omega) (by first | exact ag.out | exact av.out)]; first | assumption | (simp [*]; done))) | go_keep)
                    ((refine step_append_lies _ (by rfl) _ _ _ (by rfl) (gv + 1) 2 i0 _ 1 8 under64 hi0 hz0 hz1 hz2 rfl (by omega) _ j _ (by rfl) ((World.ownsRow.alloc HOWN.out _).drew) ⟨wr.heap.size, 0, none⟩ 1 1 [.int .i64 (IntKind.i64.wrap (IntKind.u32.wrap (IntKind.u32.wrap (x1 : Int) + (x2 : Int))))] (by rfl) (by rfl) (World.news_of_block (cs := #[.int .i64 (IntKind.i64.wrap (IntKind.u32.wrap (IntKind.u32.wrap (x1 : Int) + (x2 : Int))))]) (t := 2) (fr := (0, 0)) (heap_alloc_new wr _)) (by simp [Value.oneCell']) (by omega) hmax.out hbytes.out (by simp; omega) (wr.heap.size + 1) (by simp) ?_; intro gg cap w5 hown1 hgrow hat hlt5))
                  have hown2 : w5.ownsRow (gv + 1) 2 1 (.slice (some ⟨gg, 0, none⟩) (j + 1) cap) (j + 1) (i64s ((listOf R).take (j + 1))) := by
                    rw [i64s_take R j hlt, HA.out, ← sum_wrap x1 x2]
                    exact hown1
                  have hgg := (World.ownsRow.lt hown2 gg rfl).1
                  have hv5 : ∀ q, q < 8 → w5.cell? ⟨gv, q, none⟩ = some (.int .u32 ((listOf t).getD q 0 : Nat)) := fun q hq => by
                    rw [hgrow.cell_far _ (by simp; omega) av.out]
                    have := HV.out q hq
                    rw [World.cell?_drew, World.cell?_alloc_some _ _ _ (by rw [this]; rfl)]
                    exact this
                  have hb5 : Below w.heap.size w w5 := ((hbel.alloc (by omega) _).drew).grown hgrow (by simp; omega) (fun k hk => by have := hob.out k hk; omega)
                  have R5 : Hid _ := hown2
                  have V5 : Hid _ := hv5
                  have B5 : Hid _ := hb5
                  clear hown1 hgrow hat hown2 hv5 hb5 hbel HV HOWN
                  go_wp2_with fail
                  go_roundw
                  case rel => (repeat apply Exists.intro); exact ⟨⟨j + 1, by omega, by go_num, R5.out, V5.out, B5.out, by omega⟩, rfl⟩
                  case measure => simp [intOf]; omega
                · have e8 : j = 8 := by omega
                  subst e8
                  have hc8 := fun g' (hg' : u23.ownBlock = some g') => World.ownsRow.cells hown (g := g') hg'
                  obtain ⟨_, h2⟩ := hown
                  rcases h2 with ⟨_, h0⟩ | ⟨g', cap', cur, rfl, _⟩
                  · omega
                  · have HST : Hid (HasSt wr g' R) := fun q hq => by
                      have := hc8 g' rfl q (.int .i64 ((listOf R).getD q 0 : Nat)) (by
                        rw [show (listOf R).take 8 = listOf R from rfl]
                        exact i64_cell R q hq)
                      rw [Addr.add_mid] at this
                      simpa using this
                    have HBE : Hid (Below w.heap.size w wr) := hbel
                    clear hc8 hv hbel
                    go_wp2_with fail
                    go_ret
                    exact ⟨⟨g', cap', rfl, HST.out⟩, HBE.out⟩
end Go.Proofs.YtjgkekgieodhnabDoor.Sha
