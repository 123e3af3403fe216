/- What the program's TreeRead answers. -/
import Derived.Test.YtjgkekgieodhnaaDoorTextsD
import Derived.Test.YtjgkekgieodhnaaDoorFileOwn
import Derived.Test.YtjgkekgieodhnaaDoorImplTB
import Derived.Test.YtjgkekgieodhnaaDoorTextsA
namespace Go.Proofs.YtjgkekgieodhnaaDoor.Tre
open Go.RowKit Go.Proofs.YtjgkekgieodhnaaDoor.Mem Go.Proofs.YtjgkekgieodhnaaDoor.Gf Go.Proofs.YtjgkekgieodhnaaDoor.Harn Go.Proofs.YtjgkekgieodhnaaDoor.Mark Go.Proofs.YtjgkekgieodhnaaDoor.GetNum Go.Proofs.YtjgkekgieodhnaaDoor.GetText Go.Proofs.YtjgkekgieodhnaaDoor.Frm

set_option maxRecDepth 100000 in
set_option maxHeartbeats 1000000 in
theorem readFile_any (s : ByteArray) (a : Int) (ha : 0 ≤ a ∧ a ≤ 8000) (w : World) (hL : Laid w) :
    Calls Tryd.prog 26 #[.string s, .int .i64 a] w fun e w' => e = .returned (.tuple #[.agg #[.string (fF s a).p, .int .i64 (fF s a).m, .string (fF s a).d], .int .i64 (fP s a), .bool (fOk s a)]) ∧ Below w.heap.size w w' := by
  have x1 := gT_spec s a (by omega)
  have x2 := gN_spec s (gT s a).2.1 (by have := x1.ok; omega)
  have x3 := gT_spec s (gN s (gT s a).2.1).2.1 (by have := x2.ok; omega)
  have J1 : Hid (∀ W, Laid W → Texts 42 s a (gT s a).1 (gT s a).2.1 (gT s a).2.2 W) := x1.im
  have J2 : Hid (∀ W, Laid W → Gets 25 s (gT s a).2.1 (gN s (gT s a).2.1).1 (gN s (gT s a).2.1).2.1 (gN s (gT s a).2.1).2.2 W) := x2.num.im
  have J3 : Hid (∀ W, Laid W → Texts 42 s (gN s (gT s a).2.1).2.1 (gT s (gN s (gT s a).2.1).2.1).1 (gT s (gN s (gT s a).2.1).2.1).2.1 (gT s (gN s (gT s a).2.1).2.1).2.2 W) := x3.im
  have HL := hidT hL
  clear x1 x2 x3 hL
  unfold fF fP fOk
  dsimp only
  generalize (gT s (gN s (gT s a).2.1).2.1).1 = t3 at *
  generalize (gT s (gN s (gT s a).2.1).2.1).2.1 = p3 at *
  generalize (gT s (gN s (gT s a).2.1).2.1).2.2 = c3 at *
  generalize (gN s (gT s a).2.1).1 = n2 at *
  generalize (gN s (gT s a).2.1).2.1 = p2 at *
  generalize (gN s (gT s a).2.1).2.2 = c2 at *
  generalize (gT s a).1 = t1 at *
  generalize (gT s a).2.1 = p1 at *
  generalize (gT s a).2.2 = c1 at *
  have R0 : Hid (HasRow (w.alloc (.cells #[.string ByteArray.empty, .int .i64 0, .string ByteArray.empty] 38)) w.heap.size [.string ByteArray.empty, .int .i64 0, .string ByteArray.empty] 38) := Sha.row_new w _ _
  go_enter Tryd.func26, Tryd.ntmps26
  go_wp2_with fail
  refine (J1.out _ (laid_below HL.out (Mem.balloc (Below.refl _ _) _))).mono ?_
  rintro e w1 ⟨rfl, hb1⟩
  have B1 : Hid (Below w.heap.size w w1) := Mem.bstep (Mem.balloc (Below.refl _ _) _) hb1
  have hl1 : w.heap.size < w1.heap.size := by have := hb1.size; simp at this; omega
  have Q0 : Hid (HasRow (w1.alloc (.cells #[.string t1, .int .i64 p1, .int .i64 c1] 47)) w.heap.size [.string ByteArray.empty, .int .i64 0, .string ByteArray.empty] 38) := Sha.row_alloc (Sha.row_below R0.out hb1 (by simp)) _
  have Q1 : Hid (HasRow (w1.alloc (.cells #[.string t1, .int .i64 p1, .int .i64 c1] 47)) w1.heap.size [.string t1, .int .i64 p1, .int .i64 c1] 47) := Sha.row_new w1 _ _
  clear hb1 R0
  go_wp2_with fail
  refine (J2.out _ (laid_below HL.out (Mem.balloc B1.out _))).mono ?_
  rintro e w2 ⟨rfl, hb2⟩
  have B2 : Hid (Below w.heap.size w w2) := Mem.bstep (Mem.balloc B1.out _) hb2
  have hl2 : w1.heap.size < w2.heap.size := by have := hb2.size; simp at this; omega
  have P0 : Hid (HasRow (w2.alloc (.cells #[.int .i64 n2, .int .i64 p2, .int .i64 c2] 50)) w.heap.size [.string ByteArray.empty, .int .i64 0, .string ByteArray.empty] 38) := Sha.row_alloc (Sha.row_below Q0.out hb2 (by simp; omega)) _
  have P1 : Hid (HasRow (w2.alloc (.cells #[.int .i64 n2, .int .i64 p2, .int .i64 c2] 50)) w1.heap.size [.string t1, .int .i64 p1, .int .i64 c1] 47) := Sha.row_alloc (Sha.row_below Q1.out hb2 (by simp)) _
  have P2 : Hid (HasRow (w2.alloc (.cells #[.int .i64 n2, .int .i64 p2, .int .i64 c2] 50)) w2.heap.size [.int .i64 n2, .int .i64 p2, .int .i64 c2] 50) := Sha.row_new w2 _ _
  clear hb2 Q0 Q1
  go_wp2_with fail
  refine (J3.out _ (laid_below HL.out (Mem.balloc B2.out _))).mono ?_
  rintro e w3 ⟨rfl, hb3⟩
  have B3 : Hid (Below w.heap.size w w3) := Mem.bstep (Mem.balloc B2.out _) hb3
  have hl3 : w2.heap.size < w3.heap.size := by have := hb3.size; simp at this; omega
  have N0 : HasRow w3 w.heap.size [.string ByteArray.empty, .int .i64 0, .string ByteArray.empty] 38 := Sha.row_below P0.out hb3 (by simp; omega)
  have N1 : HasRow w3 w1.heap.size [.string t1, .int .i64 p1, .int .i64 c1] 47 := Sha.row_below P1.out hb3 (by simp; omega)
  have N2 : HasRow w3 w2.heap.size [.int .i64 n2, .int .i64 p2, .int .i64 c2] 50 := Sha.row_below P2.out hb3 (by simp)
  clear hb3 P0 P1 P2 J1 J2 J3
  obtain ⟨W, hW⟩ : ∃ W, W = w3.alloc (.cells #[.string t3, .int .i64 p3, .int .i64 c3] 47) := ⟨_, rfl⟩
  have a00 : W.cell? ⟨w.heap.size, 0, none⟩ = some (.string ByteArray.empty) := Mem.cell_of_row (show HasRow W w.heap.size [.string ByteArray.empty, .int .i64 0, .string ByteArray.empty] 38 from (by rw [hW]; exact Sha.row_alloc N0 _)) 0
  have z0 : W.frozen? ⟨w.heap.size, 0, none⟩ = false := Mem.frozen_of_row (show HasRow W w.heap.size [.string ByteArray.empty, .int .i64 0, .string ByteArray.empty] 38 from (by rw [hW]; exact Sha.row_alloc N0 _)) 0
  have a01 : W.cell? ⟨w.heap.size, 1, none⟩ = some (.int .i64 0) := Mem.cell_of_row (show HasRow W w.heap.size [.string ByteArray.empty, .int .i64 0, .string ByteArray.empty] 38 from (by rw [hW]; exact Sha.row_alloc N0 _)) 1
  have z1 : W.frozen? ⟨w.heap.size, 1, none⟩ = false := Mem.frozen_of_row (show HasRow W w.heap.size [.string ByteArray.empty, .int .i64 0, .string ByteArray.empty] 38 from (by rw [hW]; exact Sha.row_alloc N0 _)) 1
  have a02 : W.cell? ⟨w.heap.size, 2, none⟩ = some (.string ByteArray.empty) := Mem.cell_of_row (show HasRow W w.heap.size [.string ByteArray.empty, .int .i64 0, .string ByteArray.empty] 38 from (by rw [hW]; exact Sha.row_alloc N0 _)) 2
  have z2 : W.frozen? ⟨w.heap.size, 2, none⟩ = false := Mem.frozen_of_row (show HasRow W w.heap.size [.string ByteArray.empty, .int .i64 0, .string ByteArray.empty] 38 from (by rw [hW]; exact Sha.row_alloc N0 _)) 2
  have a10 : W.cell? ⟨w1.heap.size, 0, none⟩ = some (.string t1) := Mem.cell_of_row (show HasRow W w1.heap.size [.string t1, .int .i64 p1, .int .i64 c1] 47 from (by rw [hW]; exact Sha.row_alloc N1 _)) 0
  have a11 : W.cell? ⟨w1.heap.size, 1, none⟩ = some (.int .i64 p1) := Mem.cell_of_row (show HasRow W w1.heap.size [.string t1, .int .i64 p1, .int .i64 c1] 47 from (by rw [hW]; exact Sha.row_alloc N1 _)) 1
  have a12 : W.cell? ⟨w1.heap.size, 2, none⟩ = some (.int .i64 c1) := Mem.cell_of_row (show HasRow W w1.heap.size [.string t1, .int .i64 p1, .int .i64 c1] 47 from (by rw [hW]; exact Sha.row_alloc N1 _)) 2
  have a20 : W.cell? ⟨w2.heap.size, 0, none⟩ = some (.int .i64 n2) := Mem.cell_of_row (show HasRow W w2.heap.size [.int .i64 n2, .int .i64 p2, .int .i64 c2] 50 from (by rw [hW]; exact Sha.row_alloc N2 _)) 0
  have a21 : W.cell? ⟨w2.heap.size, 1, none⟩ = some (.int .i64 p2) := Mem.cell_of_row (show HasRow W w2.heap.size [.int .i64 n2, .int .i64 p2, .int .i64 c2] 50 from (by rw [hW]; exact Sha.row_alloc N2 _)) 1
  have a22 : W.cell? ⟨w2.heap.size, 2, none⟩ = some (.int .i64 c2) := Mem.cell_of_row (show HasRow W w2.heap.size [.int .i64 n2, .int .i64 p2, .int .i64 c2] 50 from (by rw [hW]; exact Sha.row_alloc N2 _)) 2
  have a30 : W.cell? ⟨w3.heap.size, 0, none⟩ = some (.string t3) := Mem.cell_of_row (show HasRow W w3.heap.size [.string t3, .int .i64 p3, .int .i64 c3] 47 from (by rw [hW]; exact Sha.row_new w3 _ _)) 0
  have a31 : W.cell? ⟨w3.heap.size, 1, none⟩ = some (.int .i64 p3) := Mem.cell_of_row (show HasRow W w3.heap.size [.string t3, .int .i64 p3, .int .i64 c3] 47 from (by rw [hW]; exact Sha.row_new w3 _ _)) 1
  have a32 : W.cell? ⟨w3.heap.size, 2, none⟩ = some (.int .i64 c3) := Mem.cell_of_row (show HasRow W w3.heap.size [.string t3, .int .i64 p3, .int .i64 c3] 47 from (by rw [hW]; exact Sha.row_new w3 _ _)) 2
  have BE : Hid (Below w.heap.size w W) := by rw [hW]; exact Mem.balloc B3.out _
  clear N0 N1 N2
  have hX := hW.symm
  clear hW
  by_cases h1 : c1 = 0
  · have d1 : decide (c1 = 0) = true := by simp [h1]
    by_cases h2 : c2 = 0
    · have d2 : decide (c2 = 0) = true := by simp [h2]
      go_wp2
      go_region
      go_wp2
      exact bodyPost_ret (v := .tuple #[.agg #[.string t1, .int .i64 n2, .string t3], .int .i64 p3, .bool (c3 == 0)]) (by simp [results, Tryd.results26, go_sem, a00, a01, a02]) rfl ⟨by rw [d1, d2]; rfl, (bset (bset (bset BE.out _ _) _ _) _ _).drew⟩
    · have d2 : decide (c2 = 0) = false := by simp [h2]
      go_wp2
      go_region
      go_wp2
      exact bodyPost_ret (v := .tuple #[.agg #[.string t1, .int .i64 n2, .string t3], .int .i64 p3, .bool (false)]) (by simp [results, Tryd.results26, go_sem, a00, a01, a02]) rfl ⟨by rw [d1, d2]; rfl, (bset (bset (bset BE.out _ _) _ _) _ _).drew⟩
  · have d1 : decide (c1 = 0) = false := by simp [h1]
    go_wp2
    go_region
    go_wp2
    exact bodyPost_ret (v := .tuple #[.agg #[.string t1, .int .i64 n2, .string t3], .int .i64 p3, .bool (false)]) (by simp [results, Tryd.results26, go_sem, a00, a01, a02]) rfl ⟨by rw [d1]; rfl, (bset (bset (bset BE.out _ _) _ _) _ _).drew⟩
end Go.Proofs.YtjgkekgieodhnaaDoor.Tre
