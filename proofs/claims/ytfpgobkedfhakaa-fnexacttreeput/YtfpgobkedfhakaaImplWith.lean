/- What the program's withFile answers. -/
import Derived.Test.YtfpgobkedfhakaaImplInsert
import Derived.Test.YtfpgobkedfhakaaCopyFile
namespace Go.Proofs.Ytfpgobkedfhakaa.Tre
open Go.RowKit Go.Proofs.Ytfpgobkedfhakaa.Mem Go.Proofs.Ytfpgobkedfhakaa.Gf Go.Proofs.Ytfpgobkedfhakaa.Harn Go.Proofs.Ytfpgobkedfhakaa.Mark

set_option maxRecDepth 100000 in
set_option maxHeartbeats 2000000 in
theorem withFile_any (v : Value) (l : List Fl) (f : Fl) (base : Nat) (w : World) (hv : OwnF w base v l) (hs : Sor l) (hbase : base ≤ w.heap.size) (hn : l.length ≤ 1000) (hp : f.p.size ≤ 1000) (hd : f.d.size ≤ 1000) :
    Calls Try.prog 51 #[v, f.val] w fun e w' => ∃ u, e = .returned u ∧ Mk w' u (insL l (placeL l f.p) f) ∧ (∀ g, u.ownBlock = some g → base ≤ g ∧ g < w'.heap.size) ∧ Below base w w' := by
  have KS := hidT (fun W (hW : Files W v l) => search_any v l f W hW hs hn)
  have KC := hidT (fun W => copyFile_any f W hp hd)
  have KI := hidT (fun (W : World) (b : Nat) (hV : OwnF W base v l) (hb : base ≤ W.heap.size) (hx : HasRow W b [.string f.p, .int .i64 f.m, .string f.d] 36) (hne : v.ownBlock ≠ some b) => insert_any v l f (placeL l f.p) base b W hV (placeL_le l f.p) hb hx hne hn)
  have HV := hidT hv
  have HBL : Hid (∀ g, v.ownBlock = some g → g < w.heap.size) := fun g hg => (hv.lt g hg).2
  generalize hL : insL l (placeL l f.p) f = L at *
  generalize hK : placeL l f.p = k at *
  obtain ⟨fp, fm, fd⟩ := f
  unfold Fl.val at *
  dsimp only at *
  have HBA : Hid (Below w.heap.size w (w.alloc (.cells #[.string fp, .int .i64 fm, .string fd] 36))) := (Below.refl _ _).alloc (Nat.le_refl _) _
  have HRA : Hid (HasRow (w.alloc (.cells #[.string fp, .int .i64 fm, .string fd] 36)) w.heap.size [.string fp, .int .i64 fm, .string fd] 36) := Sha.row_new w [.string fp, .int .i64 fm, .string fd] _
  clear hv hs hp hd hL hK hn
  go_enter Try.func51, Try.ntmps51
  go_wp2_with fail
  refine (KS.out _ (HV.out.mk.files.below HBA.out)).mono ?_
  rintro e w1 ⟨bb, rfl, hb1⟩
  have HB1 := hidT (bstep HBA.out hb1)
  have HR1 := hidT (Sha.row_below HRA.out hb1 (by simp))
  have x0 : w1.cell? ⟨w.heap.size, 0, none⟩ = some (.string fp) := Mem.cell_of_row HR1.out 0
  have x1 : w1.cell? ⟨w.heap.size, 1, none⟩ = some (.int .i64 fm) := Mem.cell_of_row HR1.out 1
  have x2 : w1.cell? ⟨w.heap.size, 2, none⟩ = some (.string fd) := Mem.cell_of_row HR1.out 2
  clear hb1
  go_wp2_with fail
  refine (KC.out _).mono ?_
  rintro e w2 ⟨rfl, hb2⟩
  have HB2 := hidT (bstep HB1.out hb2)
  clear hb2 x0 x1 x2
  go_wp2_with fail
  refine (KI.out _ w2.heap.size (HV.out.below (balloc HB2.out _) (Nat.le_refl _)) (by have := HB2.out.size; simp; omega) (Sha.row_new w2 [.string fp, .int .i64 fm, .string fd] _) (fun e => by have := HBL.out _ e; have := HB2.out.size; omega)).mono ?_
  rintro e w3 ⟨u, rfl, hm, hg, hb3⟩
  have HE := hidT (And.intro hm (And.intro hg (((balloc HB2.out _).mono hbase).trans hb3)))
  clear hm hg hb3
  go_wp2
  go_ret
  exact ⟨_, rfl, HE.out⟩
end Go.Proofs.Ytfpgobkedfhakaa.Tre
