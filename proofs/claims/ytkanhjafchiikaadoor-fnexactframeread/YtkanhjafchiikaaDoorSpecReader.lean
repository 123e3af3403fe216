/- What the model's reader of numbers answers. -/
import Derived.Test.YtkanhjafchiikaaDoorTextsD
import Derived.Test.YtkanhjafchiikaaDoorTextsB
import Derived.Test.YtkanhjafchiikaaDoorSpecFB
import Derived.Deep.RegionHeld3
import Derived.Deep.RegionWith
import Derived.Deep.DeepCutAuto
namespace Go.Proofs.YtkanhjafchiikaaDoor.Frm
open Go.RowKit Go.Proofs.YtkanhjafchiikaaDoor.Mem Go.Proofs.YtkanhjafchiikaaDoor.Gf Go.Proofs.YtkanhjafchiikaaDoor.Harn Go.Proofs.YtkanhjafchiikaaDoor.Disk Go.Proofs.YtkanhjafchiikaaDoor.GetText

/-- the reader's three cells -/
def Rdr (W : World) (R : Nat) (s : ByteArray) (a : Int) (b : Bool) : Prop := HasRow W R [.string s, .int .i64 a, .bool b] 36
theorem Rdr.cells {W : World} {R : Nat} {s : ByteArray} {a : Int} {b : Bool} (h : Rdr W R s a b) : W.cell? ⟨R, 0, none⟩ = some (.string s) ∧ W.cell? ⟨R, 1, none⟩ = some (.int .i64 a) ∧ W.cell? ⟨R, 2, none⟩ = some (.bool b) ∧ ∀ o, W.frozen? ⟨R, o, none⟩ = false := ⟨Mem.cell_of_row h 0, Mem.cell_of_row h 1, Mem.cell_of_row h 2, Mem.frozen_of_row h⟩
theorem Rdr.lt {W : World} {R : Nat} {s : ByteArray} {a : Int} {b : Bool} (h : Rdr W R s a b) : R < W.heap.size := World.block_lt_of_cell? W ⟨R, 0, none⟩ h.cells.1
theorem Rdr.below {W W' : World} {R B : Nat} {s : ByteArray} {a : Int} {b : Bool} (h : Rdr W R s a b) (hb : Below B W W') (hR : R < B) : Rdr W' R s a b := Sha.row_below h hb hR
theorem only_setR {p : Nat → Prop} {w : World} {b o : Nat} {v : Value} (hp : p b) : Only p w (w.setCell ⟨b, o, none⟩ v) := ⟨rfl, rfl, rfl, by simp, fun k _ hk => Below.heap_setCell _ _ _ _ (fun e => hk (by simp only at e; subst e; exact hp))⟩

/-- the worlds that a call may be made in, ahead of which one box was made or none -/
class From (w a : World) : Prop where
  bel : Below w.heap.size w a
instance (w : World) : From w w := ⟨Below.refl _ _⟩
instance (w : World) : From w w.drew := ⟨bD' (Below.refl _ _)⟩
instance (w : World) (o : Obj) : From w (w.alloc o) := ⟨balloc (Below.refl _ _) o⟩
instance (w : World) (o : Obj) : From w (w.alloc o).drew := ⟨bD' (balloc (Below.refl _ _) o)⟩
instance (w : World) (o : Obj) : From w (w.drew.alloc o) := ⟨balloc (bD' (Below.refl _ _)) o⟩
theorem below_in {w a w1 : World} [h : From w a] (hb : Below a.heap.size a w1) : Below w.heap.size w w1 := bstep h.bel hb
class Boxed (w a : World) : Prop where
  row : HasRow a w.heap.size [.int .i64 0, .int .i64 0, .int .i64 0] 45
instance (w : World) : Boxed w (w.alloc (.cells #[.int .i64 0, .int .i64 0, .int .i64 0] 45)) := ⟨Sha.row_new w [.int .i64 0, .int .i64 0, .int .i64 0] _⟩
instance (w : World) : Boxed w (w.alloc (.cells #[.int .i64 0, .int .i64 0, .int .i64 0] 45)).drew := ⟨Sha.row_new w [.int .i64 0, .int .i64 0, .int .i64 0] _⟩
instance (w : World) : Boxed w (w.drew.alloc (.cells #[.int .i64 0, .int .i64 0, .int .i64 0] 45)) := ⟨Sha.row_new w [.int .i64 0, .int .i64 0, .int .i64 0] _⟩
theorem row_in {w a w1 : World} [h : Boxed w a] (hb : Below a.heap.size a w1) : HasRow w1 w.heap.size [.int .i64 0, .int .i64 0, .int .i64 0] 45 := Sha.row_below h.row hb (World.block_lt_of_cell? a ⟨w.heap.size, 0, none⟩ (Mem.cell_of_row h.row 0))
theorem shutN {p : Prop} (h : p) : Hid p := h
set_option maxRecDepth 100000 in
set_option maxHeartbeats 2000000 in
theorem num_any (R : Nat) (s : ByteArray) (a n p c : Int) (b : Bool) (w : World) (hr : Rdr w R s a b) (hn : Num s a n p c) :
    Calls Tryd.prog 8 #[.pointer (some ⟨R, 0, none⟩)] w fun e w' => e = .returned (.int .i64 (if b = false ∧ c = 0 then n else 0)) ∧ Rdr w' R s (if b = false ∧ c = 0 then p else a) (b || decide (c ≠ 0)) ∧ Only (fun k => k = R) w w' := by
  obtain ⟨N0, hN0⟩ : ∃ N0, N0 = (if b = false ∧ c = 0 then n else 0) := ⟨_, rfl⟩
  obtain ⟨A0, hA0⟩ : ∃ A0, A0 = (if b = false ∧ c = 0 then p else a) := ⟨_, rfl⟩
  obtain ⟨B0, hB0⟩ : ∃ B0, B0 = (b || decide (c ≠ 0)) := ⟨_, rfl⟩
  rw [← hN0, ← hA0, ← hB0]
  have HN0 : Hid _ := hN0
  have HA0 : Hid _ := hA0
  have HB0 : Hid _ := hB0
  clear hN0 hA0 hB0
  obtain ⟨c0, c1, c2, cf⟩ := hr.cells
  have hR := hr.lt
  have HR : Hid (Rdr w R s a b) := hr
  have HG : Hid (∀ W, Gets 17 s a n p c W) := hn.sp
  clear hr hn
  go_enter Tryd.func8, Tryd.ntmps8
  go_upto_region 1 with fail
  go_cut [3] (fun bv wx => ∃ B, bv = .pointer (some ⟨B, 0, none⟩) ∧ HasRow wx B [.int .i64 n, .int .i64 p, .int .i64 c] 45 ∧ w.heap.size ≤ B ∧ Below w.heap.size w wx)
  case first =>
    go_region_with (go_at_call 17; refine (HG.out _).mono ?_; rintro e w1 ⟨rfl, hb1⟩; obtain ⟨hcc, hff⟩ := bcell hb1; simp at hcc hff; have hz1 := hb1.size; simp at hz1; have HBW := shutN (below_in (w := w) hb1); (first | (have HX := shutN (row_in (w := w) hb1)) | skip); clear hb1)
    all_goals
      go_wp2
      go_meet
      first
        | exact ⟨w.heap.size, rfl, row_set (row_set (row_set HX.out 0 (.int .i64 n)) 1 (.int .i64 p)) 2 (.int .i64 c), Nat.le_refl _, ((HBW.out.setCell (p := ⟨w.heap.size, 0, none⟩) (Nat.le_refl _) _).setCell (p := ⟨w.heap.size, 1, none⟩) (Nat.le_refl _) _).setCell (p := ⟨w.heap.size, 2, none⟩) (Nat.le_refl _) _⟩
        | exact ⟨w1.heap.size, rfl, Sha.row_new w1 [.int .i64 n, .int .i64 p, .int .i64 c] _, by omega, balloc HBW.out _⟩
  case rest =>
  obtain ⟨B, rfl, hrow, hB, hbw⟩ := hcut
  have HRC : Hid (Rdr wc R s a b) := HR.out.below hbw hR
  obtain ⟨k0, k1, k2, kf⟩ := HRC.out.cells
  have m0 : wc.cell? ⟨B, 0, none⟩ = some (.int .i64 n) := Mem.cell_of_row hrow 0
  have m1 : wc.cell? ⟨B, 1, none⟩ = some (.int .i64 p) := Mem.cell_of_row hrow 1
  have m2 : wc.cell? ⟨B, 2, none⟩ = some (.int .i64 c) := Mem.cell_of_row hrow 2
  have HO : Hid (Only (fun k => k = R) w wc) := Only.of_below _ hbw
  have hne : ¬ R = B := by omega
  clear hrow hbw HG HR c0 c1 c2 cf
  cases b
  · by_cases hc : c = 0
    · have HC : Hid (N0 = n ∧ A0 = p ∧ B0 = false) := ⟨by rw [HN0.out]; simp [hc], by rw [HA0.out]; simp [hc], by rw [HB0.out]; simp [hc]⟩
      subst hc
      go_wp2
      go_ret
      exact ⟨PutNum.ret_int HC.out.1.symm, by rw [HC.out.2.1, HC.out.2.2]; exact row_set HRC.out 1 (.int .i64 p), HO.out.trans (only_setR rfl)⟩
    · have e1 : (c != 0) = true := bne_iff_ne.2 hc
      have HC : Hid (N0 = 0 ∧ A0 = a ∧ B0 = true) := ⟨by rw [HN0.out]; simp [hc], by rw [HA0.out]; simp [hc], by rw [HB0.out]; simp [hc]⟩
      go_wp2
      go_ret
      exact ⟨PutNum.ret_int HC.out.1.symm, by rw [HC.out.2.1, HC.out.2.2]; exact row_set HRC.out 2 (.bool true), HO.out.trans (only_setR rfl)⟩
  · have HC : Hid (N0 = 0 ∧ A0 = a ∧ B0 = true) := ⟨by rw [HN0.out]; simp, by rw [HA0.out]; simp, by rw [HB0.out]; simp⟩
    go_wp2
    go_ret
    exact ⟨PutNum.ret_int HC.out.1.symm, by rw [HC.out.2.1, HC.out.2.2]; exact row_set HRC.out 2 (.bool true), HO.out.trans (only_setR rfl)⟩

class BoxedT (w a : World) : Prop where
  row : HasRow a w.heap.size [.string ByteArray.empty, .int .i64 0, .int .i64 0] 32
instance (w : World) : BoxedT w (w.alloc (.cells #[.string { data := #[] }, .int .i64 0, .int .i64 0] 32)) := ⟨Sha.row_new w [.string ByteArray.empty, .int .i64 0, .int .i64 0] _⟩
instance (w : World) : BoxedT w (w.alloc (.cells #[.string { data := #[] }, .int .i64 0, .int .i64 0] 32)).drew := ⟨Sha.row_new w [.string ByteArray.empty, .int .i64 0, .int .i64 0] _⟩
instance (w : World) : BoxedT w (w.drew.alloc (.cells #[.string { data := #[] }, .int .i64 0, .int .i64 0] 32)) := ⟨Sha.row_new w [.string ByteArray.empty, .int .i64 0, .int .i64 0] _⟩
theorem row_inT {w a w1 : World} [h : BoxedT w a] (hb : Below a.heap.size a w1) : HasRow w1 w.heap.size [.string ByteArray.empty, .int .i64 0, .int .i64 0] 32 := Sha.row_below h.row hb (World.block_lt_of_cell? a ⟨w.heap.size, 0, none⟩ (Mem.cell_of_row h.row 0))

set_option maxRecDepth 100000 in
set_option maxHeartbeats 2000000 in
theorem text_any (R : Nat) (s : ByteArray) (a : Int) (t : ByteArray) (c : Int) (b : Bool) (w : World) (hr : Rdr w R s a b) (hn : Txt s a t c) :
    Calls Tryd.prog 9 #[.pointer (some ⟨R, 0, none⟩)] w fun e w' => e = .returned (.string (if b = false then t else ByteArray.empty)) ∧ (∃ a', Rdr w' R s a' (b || decide (c ≠ 0))) ∧ Only (fun k => k = R) w w' := by
  obtain ⟨N0, hN0⟩ : ∃ N0, N0 = (if b = false then t else ByteArray.empty) := ⟨_, rfl⟩
  obtain ⟨B0, hB0⟩ : ∃ B0, B0 = (b || decide (c ≠ 0)) := ⟨_, rfl⟩
  rw [← hN0, ← hB0]
  have HN0 : Hid _ := hN0
  have HB0 : Hid _ := hB0
  clear hN0 hB0
  obtain ⟨c0, c1, c2, cf⟩ := hr.cells
  have hR := hr.lt
  have HR : Hid (Rdr w R s a b) := hr
  obtain ⟨p, hsp⟩ := hn.sp
  have HG : Hid (∀ W, Texts 18 s a t p c W) := hsp
  have HNO : Hid (c ≠ 0 → t = ByteArray.empty) := hn.none
  clear hr hn hsp
  go_enter Tryd.func9, Tryd.ntmps9
  go_upto_region 1 with fail
  go_cut [3] (fun bv wx => ∃ B, bv = .pointer (some ⟨B, 0, none⟩) ∧ HasRow wx B [.string t, .int .i64 p, .int .i64 c] 32 ∧ w.heap.size ≤ B ∧ Below w.heap.size w wx)
  case first =>
    go_region_with (go_at_call 18; refine (HG.out _).mono ?_; rintro e w1 ⟨rfl, hb1⟩; obtain ⟨hcc, hff⟩ := bcell hb1; simp at hcc hff; have hz1 := hb1.size; simp at hz1; have HBW := shutN (below_in (w := w) hb1); (first | (have HX := shutN (row_inT (w := w) hb1)) | skip); clear hb1)
    all_goals
      go_wp2
      go_meet
      first
        | exact ⟨w.heap.size, rfl, row_set (row_set (row_set HX.out 0 (.string t)) 1 (.int .i64 p)) 2 (.int .i64 c), Nat.le_refl _, ((HBW.out.setCell (p := ⟨w.heap.size, 0, none⟩) (Nat.le_refl _) _).setCell (p := ⟨w.heap.size, 1, none⟩) (Nat.le_refl _) _).setCell (p := ⟨w.heap.size, 2, none⟩) (Nat.le_refl _) _⟩
        | exact ⟨w1.heap.size, rfl, Sha.row_new w1 [.string t, .int .i64 p, .int .i64 c] _, by omega, balloc HBW.out _⟩
  case rest =>
  obtain ⟨B, rfl, hrow, hB, hbw⟩ := hcut
  have HRC : Hid (Rdr wc R s a b) := HR.out.below hbw hR
  obtain ⟨k0, k1, k2, kf⟩ := HRC.out.cells
  have m0 : wc.cell? ⟨B, 0, none⟩ = some (.string t) := Mem.cell_of_row hrow 0
  have m1 : wc.cell? ⟨B, 1, none⟩ = some (.int .i64 p) := Mem.cell_of_row hrow 1
  have m2 : wc.cell? ⟨B, 2, none⟩ = some (.int .i64 c) := Mem.cell_of_row hrow 2
  have HO : Hid (Only (fun k => k = R) w wc) := Only.of_below _ hbw
  have hne : ¬ R = B := by omega
  clear hrow hbw HG HR c0 c1 c2 cf
  cases b
  · by_cases hc : c = 0
    · have HC : Hid (N0 = t ∧ B0 = false) := ⟨by rw [HN0.out]; simp, by rw [HB0.out]; simp [hc]⟩
      subst hc
      go_wp2
      go_ret
      exact ⟨PutNum.ret_str HC.out.1.symm, ⟨p, by rw [HC.out.2]; exact row_set HRC.out 1 (.int .i64 p)⟩, HO.out.trans (only_setR rfl)⟩
    · have e1 : (c != 0) = true := bne_iff_ne.2 hc
      have HC : Hid (N0 = ByteArray.empty ∧ B0 = true) := ⟨by rw [HN0.out, HNO.out hc]; simp, by rw [HB0.out]; simp [hc]⟩
      go_wp2
      go_ret
      exact ⟨PutNum.ret_str HC.out.1.symm, ⟨a, by rw [HC.out.2]; exact row_set HRC.out 2 (.bool true)⟩, HO.out.trans (only_setR rfl)⟩
  · have HC : Hid (N0 = ByteArray.empty ∧ B0 = true) := ⟨by rw [HN0.out]; simp, by rw [HB0.out]; simp⟩
    go_wp2
    go_ret
    exact ⟨PutNum.ret_str HC.out.1.symm, ⟨a, by rw [HC.out.2]; exact row_set HRC.out 2 (.bool true)⟩, HO.out.trans (only_setR rfl)⟩
end Go.Proofs.YtkanhjafchiikaaDoor.Frm
