/- What the program's frames of a group are. -/
import Derived.Test.YtkanhjafchiikabCutGroups
import Derived.Test.YtkanhjafchiikabImplFB
import Derived.Deep.DeepCutAuto
namespace Go.Proofs.Ytkanhjafchiikab.Frm
open Go.RowKit Go.Proofs.Ytkanhjafchiikab.Mem Go.Proofs.Ytkanhjafchiikab.Gf Go.Proofs.Ytkanhjafchiikab.Harn

def PcAt (W : World) (g : Nat) (ps : List ByteArray) : Prop := ∀ q (h : q < ps.length), W.cell? ⟨g, q, none⟩ = some (.string ps[q])
theorem PcAt.below {W W' : World} {g : Nat} {ps : List ByteArray} (h : PcAt W g ps) (hb : Below W.heap.size W W') : PcAt W' g ps := fun q hq => Sha.bel_cell hb (h q hq)
theorem PcAt.set {W : World} {g : Nat} {ps : List ByteArray} (h : PcAt W g ps) (b o : Nat) (v : Value) (hg : g ≠ b) : PcAt (W.setCell ⟨b, o, none⟩ v) g ps := fun q hq => by
  rw [World.cell?_setCell_other _ _ _ _ (by intro e; injection e with e _ _; exact hg e.symm)]
  exact h q hq
theorem ownS_set {W : World} {base : Nat} {v : Value} {l : List ByteArray} (h : OwnS W base v l) (b o : Nat) (u : Value) (hb : b < base) : OwnS (W.setCell ⟨b, o, none⟩ u) base v l :=
  OwnV.same h (fun g hg => Below.heap_setCell _ _ _ _ (by have := (OwnV.lt h g hg).1; show g ≠ b; omega)) (Nat.le_refl _)
def outsTo (f : Fr) (ps : List ByteArray) (x : Nat) : List ByteArray := (List.range x).map fun (x : Nat) => Fr.out ⟨f.o, f.g, f.gs, f.n, f.m, f.s, (x : Int), ps.getD x ByteArray.empty⟩
theorem outsTo_succ (f : Fr) (ps : List ByteArray) (x : Nat) : outsTo f ps (x + 1) = outsTo f ps x ++ [Fr.out ⟨f.o, f.g, f.gs, f.n, f.m, f.s, (x : Int), ps.getD x ByteArray.empty⟩] := by simp [outsTo, List.range_succ]
theorem outsTo_len (f : Fr) (ps : List ByteArray) (x : Nat) : (outsTo f ps x).length = x := by simp [outsTo]

set_option maxRecDepth 100000 in
set_option maxHeartbeats 2000000 in
theorem groupFrames_any (o g gs need more s0 x0 : Int) (t0 : ByteArray) (vt : Value) (t : ByteArray) (w : World) (hnk : NumsK .u8 w vt (nb t)) (h1 : 1 ≤ t.size) (h2 : t.size ≤ 100) :
    Calls Try.prog 14 #[.agg #[.int .i64 o, .int .i64 g, .int .i64 gs, .int .i64 need, .int .i64 more, .int .i64 s0, .int .i64 x0, .string t0], vt] w fun e w' => ∃ u, e = .returned u ∧ OwnS w' w.heap.size u (outsTo ⟨o, g, gs, need, more, (t.size : Nat), 0, ByteArray.empty⟩ (spreadO t need more) (spreadO t need more).length) ∧ Below w.heap.size w w' := by
  have HNK : Hid (NumsK .u8 w vt (nb t)) := hnk
  obtain ⟨a, cap, rfl⟩ := hnk.shape
  rw [nb_len]
  have HCV : Hid (∀ W, Below w.heap.size w W → (convert 31 9 (.slice a t.size cap)).run Try.prog W = .ok (.string t) W) := fun W hW => by
    have h := conv_nums ((HNK.out).below hW) (nb_els t) (by rw [nb_len]; omega)
    rw [nb_len, toB_nb] at h; exact h
  have HSP : Hid (∀ W, Calls Try.prog 19 #[.string t, .int .i64 need, .int .i64 more] W fun e w' => ∃ u, e = .returned u ∧ OwnS w' W.heap.size u (spreadO t need more) ∧ Below W.heap.size W w') := fun W => implSpread_any t need more W
  have HLN : Hid ((spreadO t need more).length ≤ 20) := by
    show _ ≤ _
    unfold spreadO
    split
    · rename_i h
      obtain ⟨n', m', s', rfl, rfl, _, _, q2, q3, _⟩ := fine_parts h
      simp [spreadL_len]; omega
    · simp
  generalize spreadO t need more = ps at *
  obtain ⟨F, hF⟩ : ∃ F : Fr, F = ⟨o, g, gs, need, more, (t.size : Nat), 0, ByteArray.empty⟩ := ⟨_, rfl⟩
  rw [← hF]
  have HF : Hid (F = ⟨o, g, gs, need, more, (t.size : Nat), 0, ByteArray.empty⟩) := hF
  have HBOX : Hid (∀ W : World, HasRow (W.alloc (.cells #[.int .i64 o, .int .i64 g, .int .i64 gs, .int .i64 need, .int .i64 more, .int .i64 s0, .int .i64 x0, .string t0] 35)) W.heap.size (Fr.cells ⟨o, g, gs, need, more, s0, x0, t0⟩) 35) := fun W => Sha.row_new W _ _
  clear hnk hF
  obtain ⟨W0, hW0⟩ : ∃ W0, W0 = w.alloc (.cells #[.int .i64 o, .int .i64 g, .int .i64 gs, .int .i64 need, .int .i64 more, .int .i64 s0, .int .i64 x0, .string t0] 35) := ⟨_, rfl⟩
  have HR0 : Hid (HasRow W0 w.heap.size (Fr.cells ⟨o, g, gs, need, more, s0, x0, t0⟩) 35) := by rw [hW0]; exact HBOX.out w
  have HB0 : Hid (Below w.heap.size w W0) := by rw [hW0]; exact bself' _
  have hz0 : w.heap.size < W0.heap.size := by rw [hW0]; simp
  have z5 : W0.cell? ⟨w.heap.size, 5, none⟩ = some (.int .i64 s0) := Mem.cell_of_row HR0.out 5
  have z3 : W0.cell? ⟨w.heap.size, 3, none⟩ = some (.int .i64 need) := Mem.cell_of_row HR0.out 3
  have z4 : W0.cell? ⟨w.heap.size, 4, none⟩ = some (.int .i64 more) := Mem.cell_of_row HR0.out 4
  have zf : ∀ o, W0.frozen? ⟨w.heap.size, o, none⟩ = false := Mem.frozen_of_row HR0.out
  have hcv := HCV.out (W0.setCell ⟨w.heap.size, 5, none⟩ (.int .i64 (t.size : Nat))) (HB0.out.setCell (p := ⟨w.heap.size, 5, none⟩) (Nat.le_refl _) _)
  clear HBOX
  go_enter Try.func14, Try.ntmps14
  go_upto_region 2 with fail
  rw [← hW0]
  clear hW0
  go_wp2_with fail
  refine (HSP.out _).mono ?_
  rintro e w1 ⟨u, rfl, hown, hb1⟩
  have HB01 : Hid (Below w.heap.size w (W0.setCell ⟨w.heap.size, 5, none⟩ (.int .i64 (t.size : Nat)))) := HB0.out.setCell (p := ⟨w.heap.size, 5, none⟩) (Nat.le_refl _) _
  have HB1 : Hid (Below w.heap.size w w1) := bstep HB01.out hb1
  have HR1 : Hid (HasRow w1 w.heap.size (Fr.cells ⟨o, g, gs, need, more, (t.size : Nat), x0, t0⟩) 35) := Sha.row_below (row_set HR0.out 5 (.int .i64 (t.size : Nat))) hb1 (by simp; exact hz0)
  have hz1 : w.heap.size < w1.heap.size := by have := hb1.size; simp at this; omega
  obtain ⟨a6, c6, rfl, hle6, hc6⟩ := OwnV.cells hown
  have hlt6 := OwnV.lt hown
  have hmap : (ps.map Value.string).length = ps.length := by simp
  rw [hmap]
  have hgp : ∃ gp, (ps.length ≠ 0 → a6 = some ⟨gp, 0, none⟩ ∧ gp < w1.heap.size) ∧ PcAt w1 gp ps ∧ gp ≠ w.heap.size := by
    by_cases h0 : ps.length = 0
    · exact ⟨w.heap.size + 1, fun h => absurd h0 h, fun q hq => by omega, by omega⟩
    · obtain ⟨gp, rfl, _, _⟩ := hc6 0 (by omega)
      refine ⟨gp, fun _ => ⟨rfl, (hlt6 gp rfl).2⟩, fun q hq => ?_, ?_⟩
      · obtain ⟨g', hg', c, _⟩ := hc6 q (by omega)
        injection hg' with hg'
        injection hg' with e1 _ _
        subst e1
        rw [c]; simp [hq]
      · have := (hlt6 gp rfl).1
        simp at this; omega
  obtain ⟨gp, hgp1, hgp2, hgp3⟩ := hgp
  have HGP : Hid (ps.length ≠ 0 → a6 = some ⟨gp, 0, none⟩ ∧ gp < w1.heap.size) := hgp1
  have HPC : Hid (PcAt w1 gp ps) := hgp2
  have hln := HLN.out
  clear hb1 hown hc6 hlt6 hmap hgp1 hgp2 z5 z3 z4 zf hcv HCV HSP HB0 HR0 HB01
  go_wp2
  go_loopw [5, 19] (fun fv i wr => ∃ (x : Nat) (xo : Int) (tq : ByteArray), x ≤ ps.length ∧ i = .int .i64 x ∧ OwnS wr w1.heap.size fv (outsTo F ps x) ∧ HasRow wr w.heap.size (Fr.cells ⟨o, g, gs, need, more, (t.size : Nat), xo, tq⟩) 35 ∧ PcAt wr gp ps ∧ Below w.heap.size w wr ∧ w1.heap.size ≤ wr.heap.size) (fun _ i _ => ps.length - (intOf i).toNat)
  case atStart => exact ⟨0, x0, t0, by omega, rfl, World.ownsRow_nil _ _ _ _, HR1.out, HPC.out, HB1.out, Nat.le_refl _⟩
  case round =>
    obtain ⟨x, xo, tq, hx, rfl, hown, hrow, hpc, hbel, hzw⟩ := hrel
    have HOWN : Hid (OwnS wr w1.heap.size u5 (outsTo F ps x)) := hown
    have HROW : Hid (HasRow wr w.heap.size (Fr.cells ⟨o, g, gs, need, more, (t.size : Nat), xo, tq⟩) 35) := hrow
    have HPCR : Hid (PcAt wr gp ps) := hpc
    have HBEL : Hid (Below w.heap.size w wr) := hbel
    clear hown hrow hpc HR1 HPC
    by_cases hlt : x < ps.length
    · obtain ⟨rfl, hgl⟩ := HGP.out (by omega)
      have c1 := HPCR.out x hlt
      have k0 : wr.cell? ⟨w.heap.size, 0, none⟩ = some (.int .i64 o) := Mem.cell_of_row HROW.out 0
      have k1 : wr.cell? ⟨w.heap.size, 1, none⟩ = some (.int .i64 g) := Mem.cell_of_row HROW.out 1
      have k2 : wr.cell? ⟨w.heap.size, 2, none⟩ = some (.int .i64 gs) := Mem.cell_of_row HROW.out 2
      have k3 : wr.cell? ⟨w.heap.size, 3, none⟩ = some (.int .i64 need) := Mem.cell_of_row HROW.out 3
      have k4 : wr.cell? ⟨w.heap.size, 4, none⟩ = some (.int .i64 more) := Mem.cell_of_row HROW.out 4
      have k5 : wr.cell? ⟨w.heap.size, 5, none⟩ = some (.int .i64 (t.size : Nat)) := Mem.cell_of_row HROW.out 5
      have k6 : wr.cell? ⟨w.heap.size, 6, none⟩ = some (.int .i64 xo) := Mem.cell_of_row HROW.out 6
      have k7 : wr.cell? ⟨w.heap.size, 7, none⟩ = some (.string tq) := Mem.cell_of_row HROW.out 7
      have kf : ∀ o, wr.frozen? ⟨w.heap.size, o, none⟩ = false := Mem.frozen_of_row HROW.out
      have HOT : Hid (outsTo F ps (x + 1) = outsTo F ps x ++ [Fr.out ⟨o, g, gs, need, more, (t.size : Nat), (x : Int), ps[x]⟩]) := by
        show _ = _
        rw [outsTo_succ, HF.out]
        simp [List.getD, hlt]
      have HOL : Hid ((outsTo F ps x).length = x) := outsTo_len F ps x
      have HFB : Hid (∀ W, Calls Try.prog 20 #[.agg #[.int .i64 o, .int .i64 g, .int .i64 gs, .int .i64 need, .int .i64 more, .int .i64 (t.size : Nat), .int .i64 (x : Int), .string ps[x]]] W fun e w' => e = .returned (.string (Fr.out ⟨o, g, gs, need, more, (t.size : Nat), (x : Int), ps[x]⟩)) ∧ Below W.heap.size W w') := fun W => implFB_any ⟨o, g, gs, need, more, (t.size : Nat), (x : Int), ps[x]⟩ W
      generalize ps[x] = p at *
      generalize Fr.out ⟨o, g, gs, need, more, (t.size : Nat), (x : Int), p⟩ = y at *
      generalize outsTo F ps x = ol at *
      obtain ⟨W2, hW2⟩ : ∃ W2, W2 = (wr.setCell ⟨w.heap.size, 6, none⟩ (.int .i64 (x : Int))).setCell ⟨w.heap.size, 7, none⟩ (.string p) := ⟨_, rfl⟩
      have HR2 : Hid (HasRow W2 w.heap.size (Fr.cells ⟨o, g, gs, need, more, (t.size : Nat), (x : Int), p⟩) 35) := by rw [hW2]; exact row_set (row_set HROW.out 6 _) 7 _
      have HO2 : Hid (OwnS W2 w1.heap.size u5 ol) := by rw [hW2]; exact ownS_set (ownS_set HOWN.out _ _ _ hz1) _ _ _ hz1
      have HP2 : Hid (PcAt W2 gp ps) := by rw [hW2]; exact (HPCR.out.set _ _ _ hgp3).set _ _ _ hgp3
      have HB2 : Hid (Below w.heap.size w W2) := by rw [hW2]; exact (HBEL.out.setCell (p := ⟨w.heap.size, 6, none⟩) (Nat.le_refl _) _).setCell (p := ⟨w.heap.size, 7, none⟩) (Nat.le_refl _) _
      have hz2 : w1.heap.size ≤ W2.heap.size := by rw [hW2]; simpa using hzw
      have p1 : (x : Int) < (ps.length : Int) := by omega
      clear hbel
      go_wp2_with fail
      rw [← hW2]
      clear hW2 k0 k1 k2 k3 k4 k5 k6 k7 kf c1
      refine (HFB.out _).mono ?_
      rintro e w4 ⟨rfl, hb4⟩
      have HR4 : Hid (HasRow w4 w.heap.size (Fr.cells ⟨o, g, gs, need, more, (t.size : Nat), (x : Int), p⟩) 35) := Sha.row_below HR2.out hb4 (by omega)
      have HO4 : Hid (OwnS w4 w1.heap.size u5 ol) := OwnS.below HO2.out hb4 (Nat.le_refl _)
      have HP4 : Hid (PcAt w4 gp ps) := HP2.out.below hb4
      have HB4 : Hid (Below w.heap.size w w4) := bstep HB2.out hb4
      have hz4 : w1.heap.size ≤ w4.heap.size := by have := hb4.size; omega
      clear hb4 HR2 HO2 HP2 HB2 hz2
      go_wp2_with (at_builtin; refine wp_str (by rfl) _ _ (by rfl) w1.heap.size w4.heap.size u5 ol y (by rfl) (by rfl) (OwnS.alloc HO4.out _) (size_new hz4 _) (cell_new _ _ _) (by have := HOL.out; omega) ?_; intro g5 c5 w5 ho5 hb5 hz5; have HO5 := hidV ho5; have HB5 := hidV hb5; clear ho5 hb5 hz5)
      refine ⟨⟨x + 1, (x : Int), p, by omega, by go_num, by rw [HOT.out]; exact HO5.out, Sha.row_below (Sha.row_alloc HR4.out _) HB5.out hz1, ?_, ?_, ?_⟩, by simp [intOf]; omega⟩
      · exact fun q hq => (HB5.out.cell (p := ⟨gp, q, none⟩) hgl).trans (Sha.bel_cell (bself' _) (HP4.out q hq))
      · exact (HB4.out.alloc HB4.out.size _).trans (HB5.out.mono (by omega))
      · have := HB5.out.size; simp at this; omega
    · obtain rfl : x = ps.length := by omega
      clear hbel
      go_wp2
      go_ret
      exact ⟨_, rfl, OwnV.below HOWN.out (Below.refl _ _) (by omega), HBEL.out⟩
end Go.Proofs.Ytkanhjafchiikab.Frm
