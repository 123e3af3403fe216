/- What the model's bytes of a frame are. -/
import Derived.Test.YtkanhjafchiikaaDoorTextsC
import Derived.Test.YtkanhjafchiikaaDoorSpecFrame
import Derived.Deep.RegionHeld3
namespace Go.Proofs.YtkanhjafchiikaaDoor.Frm
open Go.RowKit Go.Proofs.YtkanhjafchiikaaDoor.Mem Go.Proofs.YtkanhjafchiikaaDoor.Gf Go.Proofs.YtkanhjafchiikaaDoor.Harn

theorem cat_eight (a b c d e f g h : ByteArray) : catB [a, b, c, d, e, f, g, h] = a ++ b ++ c ++ d ++ e ++ f ++ g ++ h := by
  apply ByteArray.ext; simp [catB]
theorem bself' {w : World} (o : Obj) : Below w.heap.size w (w.alloc o) := (Below.refl _ _).alloc (Nat.le_refl _) _
theorem bD' {w W : World} (h : Below w.heap.size w W) : Below w.heap.size w W.drew := Sha.bel_drewN h 1

set_option maxRecDepth 100000 in
set_option maxHeartbeats 4000000 in
theorem l06Bytes_any (f : Fr) (w : World) (hr : f.right = true) : Calls Tryd.prog 20 #[f.val] w fun e w' => e = .returned (.string f.bytes) ∧ Below w.heap.size w w' := by
  have hts := f.texts_size (by have := (Fr.bounds hr).2.2.2.2.2.2.2; omega)
  obtain ⟨⟨o1, o2⟩, ⟨g1, g2⟩, ⟨gs1, gs2⟩, ⟨n1, n2⟩, ⟨m1, m2⟩, ⟨s1, s2⟩, ⟨x1, x2⟩, t1⟩ := Fr.bounds hr
  clear hr
  obtain ⟨o, g, gs, n, m, s, x, t⟩ := f
  dsimp only at *
  have K0 : Hid (∀ W, Calls Tryd.prog 35 #[.int .i64 o] W fun e w' => e = .returned (.string (PutNum.numB o)) ∧ Below W.heap.size W w') := fun W => PutNum.specPutNum_any o W (by omega) (by omega)
  have K1 : Hid (∀ W, Calls Tryd.prog 35 #[.int .i64 g] W fun e w' => e = .returned (.string (PutNum.numB g)) ∧ Below W.heap.size W w') := fun W => PutNum.specPutNum_any g W (by omega) (by omega)
  have K2 : Hid (∀ W, Calls Tryd.prog 35 #[.int .i64 gs] W fun e w' => e = .returned (.string (PutNum.numB gs)) ∧ Below W.heap.size W w') := fun W => PutNum.specPutNum_any gs W (by omega) (by omega)
  have K3 : Hid (∀ W, Calls Tryd.prog 35 #[.int .i64 n] W fun e w' => e = .returned (.string (PutNum.numB n)) ∧ Below W.heap.size W w') := fun W => PutNum.specPutNum_any n W (by omega) (by omega)
  have K4 : Hid (∀ W, Calls Tryd.prog 35 #[.int .i64 m] W fun e w' => e = .returned (.string (PutNum.numB m)) ∧ Below W.heap.size W w') := fun W => PutNum.specPutNum_any m W (by omega) (by omega)
  have K5 : Hid (∀ W, Calls Tryd.prog 35 #[.int .i64 s] W fun e w' => e = .returned (.string (PutNum.numB s)) ∧ Below W.heap.size W w') := fun W => PutNum.specPutNum_any s W (by omega) (by omega)
  have K6 : Hid (∀ W, Calls Tryd.prog 35 #[.int .i64 x] W fun e w' => e = .returned (.string (PutNum.numB x)) ∧ Below W.heap.size W w') := fun W => PutNum.specPutNum_any x W (by omega) (by omega)
  have K7 : Hid (∀ W, Calls Tryd.prog 36 #[.string t] W fun e w' => e = .returned (.string (PutText.textB t)) ∧ Below W.heap.size W w') := fun W => PutText.specPutText_in t W (by omega)
  have K8 : Hid (∀ W, Calls Tryd.prog 34 #[.string (PutNum.numB o ++ PutNum.numB g ++ PutNum.numB gs ++ PutNum.numB n ++ PutNum.numB m ++ PutNum.numB s ++ PutNum.numB x ++ PutText.textB t)] W fun e w' => e = .returned (.string (Fr.bytes ⟨o, g, gs, n, m, s, x, t⟩)) ∧ Below W.heap.size W w') := fun W => by
    have e : catB (Fr.texts ⟨o, g, gs, n, m, s, x, t⟩) = PutNum.numB o ++ PutNum.numB g ++ PutNum.numB gs ++ PutNum.numB n ++ PutNum.numB m ++ PutNum.numB s ++ PutNum.numB x ++ PutText.textB t := by rw [← cat_eight]; rfl
    unfold Fr.bytes
    rw [← e]
    exact Seal.specSeal_in _ W (by rw [catB_size]; omega)
  generalize Fr.bytes ⟨o, g, gs, n, m, s, x, t⟩ = bt at *
  have hts' : (PutNum.numB o).size + (PutNum.numB g).size + (PutNum.numB gs).size + (PutNum.numB n).size + (PutNum.numB m).size + (PutNum.numB s).size + (PutNum.numB x).size + (PutText.textB t).size ≤ 1080 := by
    have e := hts
    simp only [Fr.texts, Fr.nums, List.map_cons, List.map_nil, List.cons_append, List.nil_append, catS] at e
    omega
  clear hts o1 o2 g1 g2 gs1 gs2 n1 n2 m1 m2 s1 s2 x1 x2 t1
  generalize PutNum.numB o = a0 at *
  generalize PutNum.numB g = a1 at *
  generalize PutNum.numB gs = a2 at *
  generalize PutNum.numB n = a3 at *
  generalize PutNum.numB m = a4 at *
  generalize PutNum.numB s = a5 at *
  generalize PutNum.numB x = a6 at *
  generalize PutText.textB t = a7 at *
  have q1 : ¬ 9223372036854775807 < a0.size + a1.size := by omega
  have q2 : ¬ 9223372036854775807 < a0.size + a1.size + a2.size := by omega
  have q3 : ¬ 9223372036854775807 < a0.size + a1.size + a2.size + a3.size := by omega
  have q4 : ¬ 9223372036854775807 < a0.size + a1.size + a2.size + a3.size + a4.size := by omega
  have q5 : ¬ 9223372036854775807 < a0.size + a1.size + a2.size + a3.size + a4.size + a5.size := by omega
  have q6 : ¬ 9223372036854775807 < a0.size + a1.size + a2.size + a3.size + a4.size + a5.size + a6.size := by omega
  have q7 : ¬ 9223372036854775807 < a0.size + a1.size + a2.size + a3.size + a4.size + a5.size + a6.size + a7.size := by omega
  clear hts'
  unfold Fr.val
  dsimp only
  obtain ⟨W0, hW0⟩ : ∃ W0, W0 = w.alloc (.cells #[.int .i64 o, .int .i64 g, .int .i64 gs, .int .i64 n, .int .i64 m, .int .i64 s, .int .i64 x, .string t] 25) := ⟨_, rfl⟩
  have HB0 : Hid (Below w.heap.size w W0) := by rw [hW0]; exact bself' _
  have HX : Hid (HasRow W0 w.heap.size [.int .i64 o, .int .i64 g, .int .i64 gs, .int .i64 n, .int .i64 m, .int .i64 s, .int .i64 x, .string t] 25) := by rw [hW0]; exact Sha.row_new w [.int .i64 o, .int .i64 g, .int .i64 gs, .int .i64 n, .int .i64 m, .int .i64 s, .int .i64 x, .string t] 25
  have HZ : Hid (w.heap.size < W0.heap.size) := by rw [hW0]; simp [Hid]
  have KC : Hid (∀ W, Below W0.heap.size W0 W → W.cell? ⟨w.heap.size, 0, none⟩ = some (.int .i64 o) ∧ W.cell? ⟨w.heap.size, 1, none⟩ = some (.int .i64 g) ∧ W.cell? ⟨w.heap.size, 2, none⟩ = some (.int .i64 gs) ∧ W.cell? ⟨w.heap.size, 3, none⟩ = some (.int .i64 n) ∧ W.cell? ⟨w.heap.size, 4, none⟩ = some (.int .i64 m) ∧ W.cell? ⟨w.heap.size, 5, none⟩ = some (.int .i64 s) ∧ W.cell? ⟨w.heap.size, 6, none⟩ = some (.int .i64 x) ∧ W.cell? ⟨w.heap.size, 7, none⟩ = some (.string t)) := fun W hb => by
    have h := Sha.row_below HX.out hb HZ.out
    exact ⟨Mem.cell_of_row h 0, Mem.cell_of_row h 1, Mem.cell_of_row h 2, Mem.cell_of_row h 3, Mem.cell_of_row h 4, Mem.cell_of_row h 5, Mem.cell_of_row h 6, Mem.cell_of_row h 7⟩
  have kQ := KC.out W0 (Below.refl _ _)
  have NB : Hid (Below W0.heap.size W0 W0) := Below.refl _ _
  go_enter Tryd.func20, Tryd.ntmps20
  go_wp2_with fail
  rw [← hW0]
  clear hW0
  go_region_held3 (fun W => W.cell? ⟨w.heap.size, 0, none⟩ = some (.int .i64 o) ∧ W.cell? ⟨w.heap.size, 1, none⟩ = some (.int .i64 g) ∧ W.cell? ⟨w.heap.size, 2, none⟩ = some (.int .i64 gs) ∧ W.cell? ⟨w.heap.size, 3, none⟩ = some (.int .i64 n) ∧ W.cell? ⟨w.heap.size, 4, none⟩ = some (.int .i64 m) ∧ W.cell? ⟨w.heap.size, 5, none⟩ = some (.int .i64 s) ∧ W.cell? ⟨w.heap.size, 6, none⟩ = some (.int .i64 x) ∧ W.cell? ⟨w.heap.size, 7, none⟩ = some (.string t))
    (exact kQ)
    (first
      | (go_at_call_of 35 (Value.int .i64 o); refine (K0.out _).mono ?_; rintro e u ⟨rfl, hb⟩; have NB : Hid (Below W0.heap.size W0 u) := bstep (by repeat' (first | exact NB.out | apply bD')) hb; clear kQ; have kQ := KC.out _ NB.out; clear hb)
      | (go_at_call_of 35 (Value.int .i64 g); refine (K1.out _).mono ?_; rintro e u ⟨rfl, hb⟩; have NB : Hid (Below W0.heap.size W0 u) := bstep (by repeat' (first | exact NB.out | apply bD')) hb; clear kQ; have kQ := KC.out _ NB.out; clear hb)
      | (go_at_call_of 35 (Value.int .i64 gs); refine (K2.out _).mono ?_; rintro e u ⟨rfl, hb⟩; have NB : Hid (Below W0.heap.size W0 u) := bstep (by repeat' (first | exact NB.out | apply bD')) hb; clear kQ; have kQ := KC.out _ NB.out; clear hb)
      | (go_at_call_of 35 (Value.int .i64 n); refine (K3.out _).mono ?_; rintro e u ⟨rfl, hb⟩; have NB : Hid (Below W0.heap.size W0 u) := bstep (by repeat' (first | exact NB.out | apply bD')) hb; clear kQ; have kQ := KC.out _ NB.out; clear hb)
      | (go_at_call_of 35 (Value.int .i64 m); refine (K4.out _).mono ?_; rintro e u ⟨rfl, hb⟩; have NB : Hid (Below W0.heap.size W0 u) := bstep (by repeat' (first | exact NB.out | apply bD')) hb; clear kQ; have kQ := KC.out _ NB.out; clear hb)
      | (go_at_call_of 35 (Value.int .i64 s); refine (K5.out _).mono ?_; rintro e u ⟨rfl, hb⟩; have NB : Hid (Below W0.heap.size W0 u) := bstep (by repeat' (first | exact NB.out | apply bD')) hb; clear kQ; have kQ := KC.out _ NB.out; clear hb)
      | (go_at_call_of 35 (Value.int .i64 x); refine (K6.out _).mono ?_; rintro e u ⟨rfl, hb⟩; have NB : Hid (Below W0.heap.size W0 u) := bstep (by repeat' (first | exact NB.out | apply bD')) hb; clear kQ; have kQ := KC.out _ NB.out; clear hb)
      | (go_at_call 36; refine (K7.out _).mono ?_; rintro e u ⟨rfl, hb⟩; have NB : Hid (Below W0.heap.size W0 u) := bstep (by repeat' (first | exact NB.out | apply bD')) hb; clear kQ; have kQ := KC.out _ NB.out; clear hb)
      | (go_at_call 34; refine (K8.out _).mono ?_; rintro e u ⟨rfl, hb⟩; have NB : Hid (Below W0.heap.size W0 u) := bstep (by repeat' (first | exact NB.out | apply bD')) hb; clear kQ; have kQ := KC.out _ NB.out; clear hb))
  go_wp2
  go_ret
  exact ⟨rfl, bstep HB0.out (by repeat' (first | exact NB.out | apply bD'))⟩

set_option maxRecDepth 100000 in
set_option maxHeartbeats 1000000 in
theorem specFB_any (f : Fr) (w : World) : Calls Tryd.prog 10 #[f.val] w fun e w' => e = .returned (.string f.out) ∧ Below w.heap.size w w' := by
  have HL : Hid (∀ W, f.right = true → Calls Tryd.prog 20 #[f.val] W fun e w' => e = .returned (.string f.bytes) ∧ Below W.heap.size W w') := fun W h => l06Bytes_any f W h
  have HR : Hid (∀ W, Calls Tryd.prog 19 #[f.val] W fun e w' => e = .returned (.bool f.right) ∧ Below W.heap.size W w') := fun W => specFR_any f W
  have HO : Hid (f.out = if f.right then f.bytes else ByteArray.empty) := rfl
  generalize f.out = z at *
  generalize f.right = b at *
  generalize f.bytes = bt at *
  obtain ⟨o, g, gs, n, m, s, x, t⟩ := f
  unfold Fr.val at *
  dsimp only at *
  cases b
  · have HO' : Hid (z = ByteArray.empty) := by have h := HO.out; simp at h; exact h
    clear HO HL
    go_enter Tryd.func10, Tryd.ntmps10
    go_wp2_with (go_at_call 19; refine (HR.out _).mono ?_; rintro e w1 ⟨rfl, hb1⟩)
    go_ret
    exact ⟨PutNum.ret_str HO'.out.symm, bstep (bself' _) hb1⟩
  · have HO' : Hid (z = bt) := by have h := HO.out; simp at h; exact h
    have HL' : Hid (∀ W, _) := fun W => HL.out W rfl
    clear HO HL
    go_enter Tryd.func10, Tryd.ntmps10
    go_wp2_with fail
    refine (HR.out _).mono ?_
    rintro e w1 ⟨rfl, hb1⟩
    have HB1 : Hid _ := hb1
    have hcc := (bcell hb1).1
    simp at hcc
    clear hb1
    go_wp2_with fail
    refine (HL'.out _).mono ?_
    rintro e w2 ⟨rfl, hb2⟩
    have HB2 : Hid (Below w.heap.size w w2) := bstep (bstep (bself' _) HB1.out) hb2
    clear hcc hb2
    go_wp2
    go_ret
    exact ⟨PutNum.ret_str HO'.out.symm, HB2.out⟩
end Go.Proofs.YtkanhjafchiikaaDoor.Frm
