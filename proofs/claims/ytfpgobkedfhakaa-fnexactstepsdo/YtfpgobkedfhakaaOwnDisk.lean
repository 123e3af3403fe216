/- A disk of the call's own, within a range of blocks; the laws' functions on it. -/
import Derived.Test.YtfpgobkedfhakaaHarnInts
import Derived.Test.YtfpgobkedfhakaaHarnSize
import Derived.Test.YtfpgobkedfhakaaHarnDisk2
namespace Go.Proofs.Ytfpgobkedfhakaa.Harn
open Go.RowKit Go.Proofs.Ytfpgobkedfhakaa.Mem Go.Proofs.Ytfpgobkedfhakaa.Mark

/-- Of the old blocks those of p alone have turned. -/
structure Only (p : Nat → Prop) (w w' : World) : Prop where
  os : w'.os = w.os
  tape : w'.tape = w.tape
  output : w'.output = w.output
  size : w.heap.size ≤ w'.heap.size
  block : ∀ k, k < w.heap.size → ¬ p k → w'.heap[k]? = w.heap[k]?

theorem Only.refl (p : Nat → Prop) (w : World) : Only p w w := ⟨rfl, rfl, rfl, Nat.le_refl _, fun _ _ _ => rfl⟩
theorem Only.trans {p : Nat → Prop} {a b c : World} (h : Only p a b) (k : Only p b c) : Only p a c :=
  ⟨k.os.trans h.os, k.tape.trans h.tape, k.output.trans h.output, Nat.le_trans h.size k.size, fun i hi hp => (k.block i (Nat.lt_of_lt_of_le hi h.size) hp).trans (h.block i hi hp)⟩
theorem Only.mono {p q : Nat → Prop} {a b : World} (h : Only p a b) (hpq : ∀ k, p k → q k) : Only q a b :=
  ⟨h.os, h.tape, h.output, h.size, fun i hi hq => h.block i hi (fun hp => hq (hpq i hp))⟩
theorem Only.of_below {w w' : World} (p : Nat → Prop) (h : Below w.heap.size w w') : Only p w w' := ⟨h.os, h.tape, h.output, h.size, fun k hk _ => h.block k hk⟩
theorem Only.of_grown {p : Nat → Prop} {w w' : World} {g : Nat} (h : w.grownBy w' (some g)) (hg : p g) : Only p w w' :=
  ⟨h.os, h.tape, h.output, h.size, fun k hk hn => h.block k hk (fun e => hn (by injection e with e; rw [e]; exact hg))⟩
theorem Only.below {p : Nat → Prop} {w0 w w' : World} {B : Nat} (h : Only p w w') (hb : Below B w0 w) (hB : B ≤ w.heap.size) (hp : ∀ k, k < B → ¬ p k) : Below B w0 w' :=
  ⟨h.os.trans hb.os, h.tape.trans hb.tape, h.output.trans hb.output, Nat.le_trans hb.size h.size, fun k hk => (h.block k (Nat.lt_of_lt_of_le hk hB) (hp k hk)).trans (hb.block k hk)⟩
theorem Only.cell {p : Nat → Prop} {w w' : World} (h : Only p w w') {a : Addr} (ha : a.block < w.heap.size) (hp : ¬ p a.block) : w'.cell? a = w.cell? a := by
  unfold World.cell?
  rw [h.block a.block ha hp]
theorem Only.frozen {p : Nat → Prop} {w w' : World} (h : Only p w w') {a : Addr} (ha : a.block < w.heap.size) (hp : ¬ p a.block) : w'.frozen? a = w.frozen? a := by
  unfold World.frozen?
  rw [h.block a.block ha hp]
theorem Only.row {p : Nat → Prop} {w w' : World} (h : Only p w w') {g : Nat} {cs : List Value} {e : TypeId} (hr : HasRow w g cs e) (hp : ¬ p g) : HasRow w' g cs e := by
  have hlt : g < w.heap.size := by
    rcases Nat.lt_or_ge g w.heap.size with hlt | hge
    · exact hlt
    · unfold HasRow at hr; rw [Array.getElem?_eq_none hge] at hr; cases hr
  unfold HasRow
  rw [h.block g hlt hp]
  exact hr
theorem StrsAt.only {p : Nat → Prop} {W W' : World} {g o : Nat} {l : List ByteArray} (h : StrsAt W g o l) (hg : Only p W W') (hn : l.length = 0 ∨ ¬ p g) : StrsAt W' g o l := fun j hj => by
  obtain ⟨h1, h2⟩ := h j hj
  have hlt := World.block_lt_of_cell? W _ h1
  have hp : ¬ p g := by rcases hn with h0 | h0; omega; exact h0
  exact ⟨(hg.cell hlt hp).trans h1, (hg.frozen hlt hp).trans h2⟩
theorem PendsAt.only {p : Nat → Prop} {W W' : World} {g o : Nat} {l : List (Int × ByteArray)} (h : PendsAt W g o l) (hg : Only p W W') (hn : l.length = 0 ∨ ¬ p g) : PendsAt W' g o l := fun j hj => by
  obtain ⟨h1, h2, h3, h4⟩ := h j hj
  have hlt := World.block_lt_of_cell? W _ h1
  have hp : ¬ p g := by rcases hn with h0 | h0; omega; exact h0
  exact ⟨(hg.cell (a := ⟨g, o + j * 2, none⟩) hlt hp).trans h1, (hg.cell (a := ⟨g, o + j * 2 + 1, none⟩) hlt hp).trans h2, (hg.frozen (a := ⟨g, o + j * 2, none⟩) hlt hp).trans h3, (hg.frozen (a := ⟨g, o + j * 2 + 1, none⟩) hlt hp).trans h4⟩
theorem IntsAt.only {p : Nat → Prop} {W W' : World} {g o : Nat} {l : List Int} (h : IntsAt W g o l) (hg : Only p W W') (hn : l.length = 0 ∨ ¬ p g) : IntsAt W' g o l := fun j hj => by
  obtain ⟨h1, h2⟩ := h j hj
  have hlt := World.block_lt_of_cell? W _ h1
  have hp : ¬ p g := by rcases hn with h0 | h0; omega; exact h0
  exact ⟨(hg.cell hlt hp).trans h1, (hg.frozen hlt hp).trans h2⟩

/-- The disk v has the sectors ls and the pending writes lp, each in a row of its own among the blocks from lo to hi. -/
def Own (W : World) (lo hi : Nat) (vs vp : Value) (ls : List ByteArray) (lp : List (Int × ByteArray)) : Prop :=
  ∃ va cs vb cp gs os gp op, vs = .slice va ls.length cs ∧ vp = .slice vb lp.length cp ∧ (ls.length = 0 ∨ (va = some ⟨gs, os, none⟩ ∧ lo ≤ gs ∧ gs < hi)) ∧ StrsAt W gs os ls ∧
    (lp.length = 0 ∨ (vb = some ⟨gp, op, none⟩ ∧ lo ≤ gp ∧ gp < hi)) ∧ PendsAt W gp op lp ∧ (gs ≠ gp ∨ ls.length = 0 ∨ lp.length = 0)

theorem Own.strs {W : World} {lo hi : Nat} {vs vp : Value} {ls : List ByteArray} {lp : List (Int × ByteArray)} (h : Own W lo hi vs vp ls lp) : Strs W vs ls := by
  obtain ⟨va, cs, vb, cp, gs, os, gp, op, rfl, rfl, h1, h2, h3, h4, h5⟩ := h
  refine ⟨va, cs, rfl, fun j hj => ?_⟩
  rcases h1 with h1 | ⟨h1, _, _⟩
  · omega
  · exact ⟨gs, os, h1, (h2 j hj).1⟩
theorem Own.pends {W : World} {lo hi : Nat} {vs vp : Value} {ls : List ByteArray} {lp : List (Int × ByteArray)} (h : Own W lo hi vs vp ls lp) : Pends W vp lp := by
  obtain ⟨va, cs, vb, cp, gs, os, gp, op, rfl, rfl, h1, h2, h3, h4, h5⟩ := h
  refine ⟨vb, cp, rfl, fun j hj => ?_⟩
  rcases h3 with h3 | ⟨h3, _, _⟩
  · omega
  · exact ⟨gp, op, h3, (h4 j hj).1, (h4 j hj).2.1⟩
theorem Own.only {p : Nat → Prop} {W W' : World} {lo hi : Nat} {vs vp : Value} {ls : List ByteArray} {lp : List (Int × ByteArray)} (h : Own W lo hi vs vp ls lp) (hg : Only p W W') (hn : ∀ k, lo ≤ k → k < hi → ¬ p k) : Own W' lo hi vs vp ls lp := by
  obtain ⟨va, cs, vb, cp, gs, os, gp, op, rfl, rfl, h1, h2, h3, h4, h5⟩ := h
  exact ⟨va, cs, vb, cp, gs, os, gp, op, rfl, rfl, h1, h2.only hg (h1.imp id fun h => hn gs h.2.1 h.2.2), h3, h4.only hg (h3.imp id fun h => hn gp h.2.1 h.2.2), h5⟩
theorem Own.below {W W' : World} {lo hi : Nat} {vs vp : Value} {ls : List ByteArray} {lp : List (Int × ByteArray)} (h : Own W lo hi vs vp ls lp) (hb : Below W.heap.size W W') : Own W' lo hi vs vp ls lp :=
  h.only (Only.of_below (fun _ => False) hb) (fun _ _ _ h => h)
theorem Own.wide {W : World} {lo hi lo' hi' : Nat} {vs vp : Value} {ls : List ByteArray} {lp : List (Int × ByteArray)} (h : Own W lo hi vs vp ls lp) (h1 : lo' ≤ lo) (h2 : hi ≤ hi') : Own W lo' hi' vs vp ls lp := by
  obtain ⟨va, cs, vb, cp, gs, os, gp, op, e1, e2, a1, a2, a3, a4, a5⟩ := h
  exact ⟨va, cs, vb, cp, gs, os, gp, op, e1, e2, a1.imp id (fun h => ⟨h.1, by omega, by omega⟩), a2, a3.imp id (fun h => ⟨h.1, by omega, by omega⟩), a4, a5⟩
theorem Own.shape {W : World} {lo hi : Nat} {vs vp : Value} {ls : List ByteArray} {lp : List (Int × ByteArray)} (h : Own W lo hi vs vp ls lp) : ∃ va cs vb cp, vs = .slice va ls.length cs ∧ vp = .slice vb lp.length cp := by
  obtain ⟨va, cs, vb, cp, gs, os, gp, op, e1, e2, _⟩ := h
  exact ⟨va, cs, vb, cp, e1, e2⟩
theorem Own.setCell {W : World} {lo hi : Nat} {vs vp : Value} {ls : List ByteArray} {lp : List (Int × ByteArray)} (h : Own W lo hi vs vp ls lp) {a : Addr} (ha : a.block < lo ∨ hi ≤ a.block) (v : Value) : Own (W.setCell a v) lo hi vs vp ls lp :=
  h.only (p := fun b => b = a.block) ⟨rfl, rfl, rfl, by simp, fun k _ hk => Below.heap_setCell _ _ _ _ hk⟩ (fun k h1 h2 e => by subst e; omega)
theorem own_zero (W : World) (lo hi : Nat) : Own W lo hi (.slice none 0 0) (.slice none 0 0) [] [] :=
  ⟨none, 0, none, 0, 0, 0, 0, 0, rfl, rfl, .inl rfl, fun j hj => absurd hj (by simp), .inl rfl, fun j hj => absurd hj (by simp), .inr (.inl rfl)⟩
theorem own_mk {W : World} {lo hi gs gp cs cp : Nat} {ls : List ByteArray} {lp : List (Int × ByteArray)} (h1 : StrsAt W gs 0 ls) (h2 : PendsAt W gp 0 lp) (a1 : lo ≤ gs) (a2 : gs < hi) (b1 : lo ≤ gp) (b2 : gp < hi) (hne : gs ≠ gp) :
    Own W lo hi (.slice (some ⟨gs, 0, none⟩) ls.length cs) (.slice (some ⟨gp, 0, none⟩) lp.length cp) ls lp :=
  ⟨_, cs, _, cp, gs, 0, gp, 0, rfl, rfl, .inr ⟨rfl, a1, a2⟩, h1, .inr ⟨rfl, b1, b2⟩, h2, .inl hne⟩
theorem own_mk0 {W : World} {lo hi gs cs : Nat} {ls : List ByteArray} (h1 : StrsAt W gs 0 ls) (a1 : lo ≤ gs) (a2 : gs < hi) :
    Own W lo hi (.slice (some ⟨gs, 0, none⟩) ls.length cs) (.slice none 0 0) ls [] :=
  ⟨_, cs, none, 0, gs, 0, 0, 0, rfl, rfl, .inr ⟨rfl, a1, a2⟩, h1, .inl rfl, fun j hj => absurd hj (by simp), .inr (.inr rfl)⟩

/-! ### marks -/
end Go.Proofs.Ytfpgobkedfhakaa.Harn
