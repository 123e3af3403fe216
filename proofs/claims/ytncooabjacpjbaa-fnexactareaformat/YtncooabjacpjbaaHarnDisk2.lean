/- What the laws' own functions answer that weigh, mark and look at a disk. -/
import Derived.Test.YtncooabjacpjbaaHarnSize
namespace Go.Proofs.Ytncooabjacpjbaa.Harn
open Go.RowKit Go.Proofs.Ytncooabjacpjbaa.Mem Go.Proofs.Ytncooabjacpjbaa.Mark

/-- What a disk weighs. -/
def wtD (ls : List ByteArray) (lp : List (Int × ByteArray)) : Nat := ls.length + wt ls + (lp.length + wtP lp)

set_option maxHeartbeats 1000000 in
theorem szDisk_any (vs vp : Value) (ls : List ByteArray) (lp : List (Int × ByteArray)) (left : Nat) (w : World) (hs : Strs w vs ls) (hp : Pends w vp lp) (h1 : ls.length ≤ maxLen) (h2 : lp.length ≤ maxLen) (h3 : ∀ t ∈ ls, t.size ≤ maxLen) (h4 : ∀ y ∈ lp, y.2.size ≤ maxLen) (hl : left ≤ 1048576) :
    Calls Try.prog 5 #[.agg #[vs, vp], .int .i64 (left : Int)] w fun e w' => Below w.heap.size w w' ∧ ((∃ r : Nat, e = .returned (.int .i64 (r : Int)) ∧ r + wtD ls lp = left) ∨ (e = .returned (.int .i64 (-1)) ∧ left < wtD ls lp)) := by
  have hB0 : Below w.heap.size w (w.alloc (Obj.cells #[vs, vp] 25)) := (Below.refl _ _).alloc (Nat.le_refl _) _
  have HB0 : Hid (Below w.heap.size w (w.alloc (Obj.cells #[vs, vp] 25))) := hB0
  have HS : Hid (Strs (w.alloc (Obj.cells #[vs, vp] 25)) vs ls) := Strs.below hs hB0
  have HP : Hid (Pends (w.alloc (Obj.cells #[vs, vp] 25)) vp lp) := Pends.below hp hB0
  have H3 : Hid (∀ t ∈ ls, t.size ≤ maxLen) := h3
  have H4 : Hid (∀ y ∈ lp, y.2.size ≤ maxLen) := h4
  clear hs hp hB0 h3 h4
  by_cases hA : ls.length + wt ls ≤ left
  · by_cases hC : wtD ls lp ≤ left
    · have hD : ls.length + wt ls + (lp.length + wtP lp) ≤ left := hC
      go_enter Try.func5, Try.ntmps5
      go_wp2_with (first
        | (go_at_call 16; refine (szStr_any vs ls left _ HS.out h1 hl H3.out).mono ?_; rintro e w1 ⟨rfl, ⟨r, rfl, hr⟩ | ⟨rfl, hr⟩⟩; rotate_left; (exfalso; omega))
        | (go_at_call 17; refine (szPend_any vp lp r _ HP.out h2 (by omega) H4.out).mono ?_; rintro e w2 ⟨hb2, ⟨r2, rfl, hr2⟩ | ⟨rfl, hr2⟩⟩; rotate_left; (exfalso; omega)))
      go_ret
      exact ⟨HB0.out.trans (hb2.mono HB0.out.size), .inl ⟨r2, rfl, by unfold wtD; omega⟩⟩
    · have hD : left < ls.length + wt ls + (lp.length + wtP lp) := Nat.lt_of_not_le hC
      go_enter Try.func5, Try.ntmps5
      go_wp2_with (first
        | (go_at_call 16; refine (szStr_any vs ls left _ HS.out h1 hl H3.out).mono ?_; rintro e w1 ⟨rfl, ⟨r, rfl, hr⟩ | ⟨rfl, hr⟩⟩; rotate_left; (exfalso; omega))
        | (go_at_call 17; refine (szPend_any vp lp r _ HP.out h2 (by omega) H4.out).mono ?_; rintro e w2 ⟨hb2, ⟨r2, rfl, hr2⟩ | ⟨rfl, hr2⟩⟩; (exfalso; omega)))
      go_ret
      exact ⟨HB0.out.trans (hb2.mono HB0.out.size), .inr ⟨rfl, by unfold wtD; omega⟩⟩
  · go_enter Try.func5, Try.ntmps5
    go_wp2_with (go_at_call 16; refine (szStr_any vs ls left _ HS.out h1 hl H3.out).mono ?_; rintro e w1 ⟨rfl, ⟨r, rfl, hr⟩ | ⟨rfl, hr⟩⟩; (exfalso; omega))
    go_ret
    exact ⟨HB0.out, .inr ⟨rfl, by unfold wtD; omega⟩⟩

theorem far_cell {W W' : World} {row : Option Nat} (hg : W.grownBy W' row) (a : Addr) (hlt : a.block < W.heap.size) (hne : some a.block ≠ row) : W'.cell? a = W.cell? a := by
  unfold World.cell?
  rw [hg.block a.block hlt hne]
theorem far_frozen {W W' : World} {row : Option Nat} (hg : W.grownBy W' row) (a : Addr) (hlt : a.block < W.heap.size) (hne : some a.block ≠ row) : W'.frozen? a = W.frozen? a := by
  unfold World.frozen?
  rw [hg.block a.block hlt hne]

/-- What a function left that wrote into one block alone. -/
theorem StrsAt.grown {W W' : World} {b g o : Nat} {l : List ByteArray} (h : StrsAt W g o l) (hg : W.grownBy W' (some b)) (hn : g ≠ b) : StrsAt W' g o l := fun j hj => by
  obtain ⟨h1, h2⟩ := h j hj
  have hlt := World.block_lt_of_cell? W _ h1
  have hne : some g ≠ some b := fun e => hn (Option.some.inj e)
  exact ⟨(far_cell hg _ hlt hne).trans h1, (far_frozen hg _ hlt hne).trans h2⟩
theorem PendsAt.grown {W W' : World} {b g o : Nat} {l : List (Int × ByteArray)} (h : PendsAt W g o l) (hg : W.grownBy W' (some b)) (hn : g ≠ b) : PendsAt W' g o l := fun j hj => by
  obtain ⟨h1, h2, h3, h4⟩ := h j hj
  have hlt := World.block_lt_of_cell? W _ h1
  have hne : some g ≠ some b := fun e => hn (Option.some.inj e)
  exact ⟨(far_cell hg ⟨g, o + j * 2, none⟩ hlt hne).trans h1, (far_cell hg ⟨g, o + j * 2 + 1, none⟩ hlt hne).trans h2, (far_frozen hg ⟨g, o + j * 2, none⟩ hlt hne).trans h3, (far_frozen hg ⟨g, o + j * 2 + 1, none⟩ hlt hne).trans h4⟩

set_option maxHeartbeats 1000000 in
/-- 'markDisk' writes its marks into the two blocks of the disk, and nowhere else. -/
theorem markDisk_any (gs gp os op cs cp k : Nat) (ls : List ByteArray) (lp : List (Int × ByteArray)) (w : World) (hs : StrsAt w gs os ls) (hp : PendsAt w gp op lp) (hne : gs ≠ gp) (hgs : gs < w.heap.size) (h1 : ls.length ≤ 1100000) (h2 : lp.length ≤ 1100000) (hk : k ≤ 10000000) :
    Calls Try.prog 13 #[.agg #[.slice (some ⟨gs, os, none⟩) ls.length cs, .slice (some ⟨gp, op, none⟩) lp.length cp], .int .i64 (k : Int)] w fun e w' => e = .returned (.int .i64 ((k + ls.length + 2 * lp.length : Nat) : Int)) ∧ StrsAt w' gs os (marks k ls.length) ∧ PendsAt w' gp op (marksP (k + ls.length) lp.length) ∧ ∃ w1 w2, Below w.heap.size w w1 ∧ w1.grownBy w2 (some gs) ∧ w2.grownBy w' (some gp) := by
  obtain ⟨W0, hW0⟩ : ∃ W0, W0 = w.alloc (Obj.cells #[.slice (some ⟨gs, os, none⟩) ls.length cs, .slice (some ⟨gp, op, none⟩) lp.length cp] 30) := ⟨_, rfl⟩
  have hB0 : Below w.heap.size w W0 := by rw [hW0]; exact (Below.refl _ _).alloc (Nat.le_refl _) _
  have HB0 : Hid (Below w.heap.size w W0) := hB0
  have HS : Hid (StrsAt W0 gs os ls) := StrsAt.below hs hB0
  have HP : Hid (PendsAt W0 gp op lp) := PendsAt.below hp hB0
  clear hs hp hB0
  rw [hW0] at HS HP HB0
  clear hW0 W0
  go_enter Try.func13, Try.ntmps13
  have A1 : Hid (∀ w1, (w.alloc (Obj.cells #[.slice (some ⟨gs, os, none⟩) ls.length cs, .slice (some ⟨gp, op, none⟩) lp.length cp] 30)).grownBy w1 (some gs) → w1.cell? ⟨w.heap.size, 1, none⟩ = some (.slice (some ⟨gp, op, none⟩) lp.length cp)) := fun w1 hg => by
    rw [far_cell hg _ (by simp) (by simp; omega)]
    exact Mem.cell_of_row (Sha.row_new w [.slice (some ⟨gs, os, none⟩) ls.length cs, .slice (some ⟨gp, op, none⟩) lp.length cp] 30) 1
  go_wp2_with (first
    | (go_at_call 32; refine (markStr_any gs os cs k ls _ HS.out h1 (by omega)).mono ?_; rintro e w1 ⟨rfl, hs1, hg1⟩; have a1 := A1.out w1 hg1; have HS1 : Hid _ := hs1; have HG1 : Hid _ := hg1; clear hs1 hg1)
    | (go_at_call 33; refine (markPend_any gp op cp (k + ls.length) lp _ (PendsAt.grown HP.out HG1.out hne.symm) h2 (by omega)).mono ?_; rintro e w2 ⟨rfl, hs2, hg2⟩; have HS2 : Hid _ := hs2; have HG2 : Hid _ := hg2; clear hs2 hg2))
  go_ret
  exact ⟨rfl, StrsAt.grown HS1.out HG2.out hne, HS2.out, _, _, HB0.out, HG1.out, HG2.out⟩

set_option maxHeartbeats 1000000 in
theorem heldDisk_any (vs vp : Value) (k n m : Nat) (w : World) (hs : Strs w vs (marks k n)) (hp : Pends w vp (marksP (k + n) m)) (h1 : n ≤ 1100000) (h2 : m ≤ 1100000) (hk : k ≤ 10000000) :
    Calls Try.prog 34 #[.agg #[vs, vp], .int .i64 (k : Int)] w fun e w' => e = .returned (.int .i64 ((k + n + 2 * m : Nat) : Int)) ∧ Below w.heap.size w w' := by
  have hB0 : Below w.heap.size w (w.alloc (Obj.cells #[vs, vp] 30)) := (Below.refl _ _).alloc (Nat.le_refl _) _
  have HB0 : Hid (Below w.heap.size w (w.alloc (Obj.cells #[vs, vp] 30))) := hB0
  have HS : Hid (Strs (w.alloc (Obj.cells #[vs, vp] 30)) vs (marks k n)) := Strs.below hs hB0
  have HP : Hid (Pends (w.alloc (Obj.cells #[vs, vp] 30)) vp (marksP (k + n) m)) := Pends.below hp hB0
  have A1 : Hid (∀ w1, Below (w.alloc (Obj.cells #[vs, vp] 30)).heap.size (w.alloc (Obj.cells #[vs, vp] 30)) w1 → w1.cell? ⟨w.heap.size, 1, none⟩ = some vp) := fun w1 hg => by
    rw [hg.cell (by simp)]
    exact Mem.cell_of_row (Sha.row_new w [vs, vp] 30) 1
  clear hs hp hB0
  go_enter Try.func34, Try.ntmps34
  go_wp2_with (first
    | (go_at_call 48; refine (heldStr_any vs k n _ HS.out h1 (by omega)).mono ?_; rintro e w1 ⟨rfl, hg1⟩; have a1 := A1.out w1 hg1; have HG1 : Hid _ := hg1; clear hg1)
    | (go_at_call 49; refine (heldPend_any vp (k + n) m _ (Pends.below HP.out HG1.out) h2 (by omega)).mono ?_; rintro e w2 ⟨rfl, hg2⟩; have HG2 : Hid _ := hg2; clear hg2))
  go_ret
  exact ⟨rfl, (HB0.out.trans (HG1.out.mono HB0.out.size)).trans (HG2.out.mono (HB0.out.trans (HG1.out.mono HB0.out.size)).size)⟩
end Go.Proofs.Ytncooabjacpjbaa.Harn
