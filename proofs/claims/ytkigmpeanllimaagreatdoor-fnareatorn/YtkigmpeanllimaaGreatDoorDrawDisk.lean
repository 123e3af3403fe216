/- A drawn disk: what the model's l03Disk answers. -/
import Derived.Test.YtkigmpeanllimaaGreatDoorSpecWrite
import Derived.Test.YtkigmpeanllimaaGreatDoorTextsF
import Derived.Test.YtkigmpeanllimaaGreatDoorTextsC
import Derived.Deep.DeepCutAuto
import Derived.Deep.Light
import Derived.Deep.LoopGhost
namespace Go.Proofs.YtkigmpeanllimaaGreatDoor.Disk
open Go.RowKit Go.Proofs.YtkigmpeanllimaaGreatDoor.Mem Go.Proofs.YtkigmpeanllimaaGreatDoor.Harn Go.Proofs.YtkigmpeanllimaaGreatDoor.DiskP Go.Proofs.YtkigmpeanllimaaGreatDoor.Draw

/-- A disk as it is drawn. -/
structure Little (ls : List ByteArray) (lp : List (Int × ByteArray)) : Prop where
  n : ls.length ≤ 64
  m : lp.length ≤ 201
  t : ∀ t ∈ ls, t.size ≤ 65
  y : ∀ y ∈ lp, y.2.size ≤ 64 ∧ 0 ≤ y.1 ∧ y.1 ≤ 64
theorem Little.fits {ls : List ByteArray} {lp : List (Int × ByteArray)} (h : Little ls lp) : Fits ls lp := by
  refine ⟨by have := h.n; omega, by have := h.m; omega, fun t ht => ?_, fun y hy => ?_, fun t ht => ?_, fun y hy => ?_⟩
  · have := h.t t ht; unfold maxLen; omega
  · have := h.y y hy; unfold maxLen; omega
  · have := h.t t ht; omega
  · have := h.y y hy; omega
theorem right_little {ls : List ByteArray} {lp : List (Int × ByteArray)} (h : rightB ls lp = true) : Little ls lp := by
  obtain ⟨h1, h2, h3, h4, h5⟩ := (right_iff ls lp).1 h
  refine ⟨h2, by omega, fun t ht => by have := h4 t ht; omega, fun y hy => ?_⟩
  have := h5 y hy; unfold okP at this; omega

/-- A call drew a disk: it lies in memory of its own; of the old blocks the source's alone has turned. -/
def DiskDrawn (W : World) (g : Nat) (S : World → Prop) (e : Ending) (W' : World) : Prop := ∃ us up ls lp, e = .returned (.agg #[us, up]) ∧ Own W' W.heap.size W'.heap.size us up ls lp ∧ Little ls lp ∧ S W' ∧ W.grownBy W' (some g)
/-- A disk of the call's own among the blocks from lo to hi, to whose pending writes one may append. -/
structure DOwn (W : World) (lo hi : Nat) (us up : Value) (ls : List ByteArray) (lp : List (Int × ByteArray)) : Prop where
  own : Own W lo hi us up ls lp
  ownp : OwnP W lo up lp
  lt : ∀ g, up.ownBlock = some g → g < hi
  full : lp.length = 0 → up = .slice none 0 0
  le : hi ≤ W.heap.size
  ll : lo ≤ hi
theorem DOwn.only {p : Nat → Prop} {W W' : World} {lo hi : Nat} {us up : Value} {ls : List ByteArray} {lp : List (Int × ByteArray)} (h : DOwn W lo hi us up ls lp) (hg : Only p W W') (hn : ∀ k, lo ≤ k → k < hi → ¬ p k) : DOwn W' lo hi us up ls lp :=
  ⟨h.own.only hg hn, h.ownp.same (fun g hb => hg.block g (h.ownp.lt g hb).2 (hn g (h.ownp.lt g hb).1 (h.lt g hb))) (Nat.le_refl _), h.lt, h.full, Nat.le_trans h.le hg.size, h.ll⟩
theorem DOwn.below {W W' : World} {lo hi : Nat} {us up : Value} {ls : List ByteArray} {lp : List (Int × ByteArray)} (h : DOwn W lo hi us up ls lp) (hb : Below W.heap.size W W') : DOwn W' lo hi us up ls lp := h.only (Only.of_below (fun _ => False) hb) (fun _ _ _ h => h)
theorem dOwn_of {W : World} {lo : Nat} {us up : Value} {ls : List ByteArray} {lp : List (Int × ByteArray)} (h1 : Own W lo W.heap.size us up ls lp) (h2 : OwnP W lo up lp) (h3 : lp.length = 0 → up = .slice none 0 0) (h4 : lo ≤ W.heap.size) : DOwn W lo W.heap.size us up ls lp :=
  ⟨h1, h2, fun g hg => (h2.lt g hg).2, h3, Nat.le_refl _, h4⟩

theorem cell_far4 {W : World} {b k o : Nat} {v0 v1 v2 v3 : Value} (h : b ≠ k) : ((((W.setCell ⟨b, 0, none⟩ v0).setCell ⟨b, 1, none⟩ v1).setCell ⟨b, 2, none⟩ v2).setCell ⟨b, 3, none⟩ v3).cell? ⟨k, o, none⟩ = W.cell? ⟨k, o, none⟩ := by
  rw [World.cell?_setCell_other _ _ _ _ (by intro e; injection e with e _ _; omega), World.cell?_setCell_other _ _ _ _ (by intro e; injection e with e _ _; omega), World.cell?_setCell_other _ _ _ _ (by intro e; injection e with e _ _; omega), World.cell?_setCell_other _ _ _ _ (by intro e; injection e with e _ _; omega)]
theorem box_set4 {W : World} {b : Nat} {vs vp : Value} {t : ByteArray} {c : Int} (h : Box4 W b) : BoxO ((((W.setCell ⟨b, 0, none⟩ vs).setCell ⟨b, 1, none⟩ vp).setCell ⟨b, 2, none⟩ (.string t)).setCell ⟨b, 3, none⟩ (.int .i64 c)) b vs vp t c := row_set (row_set (row_set (row_set h 0 vs) 1 vp) 2 (.string t)) 3 (.int .i64 c)
theorem only_set4 {W : World} {b : Nat} {v0 v1 v2 v3 : Value} : Only (fun k => k = b) W ((((W.setCell ⟨b, 0, none⟩ v0).setCell ⟨b, 1, none⟩ v1).setCell ⟨b, 2, none⟩ v2).setCell ⟨b, 3, none⟩ v3) :=
  ⟨rfl, rfl, rfl, by simp, fun k _ hk => by rw [Below.heap_setCell _ _ _ _ hk, Below.heap_setCell _ _ _ _ hk, Below.heap_setCell _ _ _ _ hk, Below.heap_setCell _ _ _ _ hk]⟩

theorem src_set4 {W : World} {b g : Nat} {v0 v1 v2 v3 : Value} {a : Option Addr} {len cap : Nat} {zs : List Int} (h : Draw.Src W g a len cap zs) (hb : g < b) : Draw.Src ((((W.setCell ⟨b, 0, none⟩ v0).setCell ⟨b, 1, none⟩ v1).setCell ⟨b, 2, none⟩ v2).setCell ⟨b, 3, none⟩ v3) g a len cap zs := src_only h only_set4 (fun k hk e => by omega)
theorem writeO_right {ls : List ByteArray} {lp : List (Int × ByteArray)} {x : Int} {t : ByteArray} (h : (writeO ls lp x t).c = 0) : rightB (writeO ls lp x t).ls (writeO ls lp x t).lp = true := by
  unfold writeO at h ⊢
  split
  · rename_i h1; rw [if_pos h1] at h; cases h
  · rename_i h1
    rw [if_neg h1] at h
    split
    · rename_i h2; rw [if_pos h2] at h; cases h
    · rename_i h2
      rw [if_neg h2] at h
      split
      · rename_i h3; rw [if_pos h3] at h; cases h
      · rename_i h3
        rw [if_neg h3] at h
        split
        · rename_i h4; rw [if_pos h4] at h; cases h
        · rename_i h4
          have hr : rightB ls lp = true := by cases e : rightB ls lp with | true => rfl | false => exact absurd (.inl e) h2
          obtain ⟨r1, r2, r3, r4, r5⟩ := (right_iff ls lp).1 hr
          refine right_yes ⟨r1, r2, by simp; omega, r4, fun y hy => ?_⟩
          rcases List.mem_append.1 hy with hy | hy
          · exact r5 y hy
          · obtain rfl : y = (x, t) := by simpa using hy
            have hs : ¬ 64 < t.size := fun h => h2 (.inr h)
            refine ⟨?_, ?_, ?_⟩ <;> simp only <;> omega
theorem flushO_right {ls : List ByteArray} {lp : List (Int × ByteArray)} (h : (flushO ls lp).c = 0) : rightB (flushO ls lp).ls (flushO ls lp).lp = true := by
  unfold flushO at h ⊢
  split
  · rename_i hr
    obtain ⟨r1, r2, r3, r4, r5⟩ := (right_iff ls lp).1 hr
    have hl := length_flushD ls lp
    refine right_yes ⟨by simp only; omega, by simp only; omega, by simp, fun t ht => ?_, by simp⟩
    obtain ⟨k, hk, rfl⟩ := List.getElem_of_mem ht
    have hk2 : k < (flushD ls lp).length := hk
    rw [flushD_at ls lp (fun y hy => (r5 y hy).1) k (by omega)]
    cases e : lastOf lp (k : Int) with
    | some y => rw [readD_some e]; exact (r5 y (lastOf_mem e).1).2.2
    | none => rw [readD_none e (by omega)]; exact r4 _ (List.getElem_mem _)
  · rename_i h1; rw [if_neg h1] at h; cases h

/-- Where a round of the drawing stands: the source, the result's box, the disk's box (gd), and the disk. -/
def StD (W : World) (g gd : Nat) (S : World → Prop) (wr : World) : Prop :=
  S wr ∧ Only (fun b => b = g) W wr ∧ gd + 1 ≤ wr.heap.size ∧ Box2 wr W.heap.size (.slice none 0 0) (.slice none 0 0) ∧
    ∃ us up ls lp lo hi, Box2 wr gd us up ∧ DOwn wr lo hi us up ls lp ∧ W.heap.size < lo ∧ (hi ≤ gd ∨ gd < lo) ∧ rightB ls lp = true

/-- Where the round stands when y was told: y's box, what it holds, and what stood. -/
def RelY (W : World) (g gd : Nat) (S : World → Prop) (us up : Value) (ls : List ByteArray) (lp : List (Int × ByteArray)) (y : Value) (wc : World) : Prop :=
  ∃ gy us7 up7 ls7 lp7 t c lo7 hi7 lo hi, y = .pointer (some ⟨gy, 0, none⟩) ∧ BoxO wc gy us7 up7 t c ∧ gd + 1 ≤ gy ∧ gy < wc.heap.size ∧ DOwn wc lo7 hi7 us7 up7 ls7 lp7 ∧ gd < lo7 ∧ (gy < lo7 ∨ hi7 ≤ gy) ∧ (c = 0 → rightB ls7 lp7 = true) ∧
    S wc ∧ Only (fun b => b = g) W wc ∧ Box2 wc W.heap.size (.slice none 0 0) (.slice none 0 0) ∧ Box2 wc gd us up ∧ DOwn wc lo hi us up ls lp ∧ W.heap.size < lo ∧ (hi ≤ gd ∨ gd < lo) ∧ hi ≤ gy

theorem relY_mk {W wr w7 wc : World} {g gd gy b0 lo hi : Nat} {S : World → Prop} {us up us7 up7 : Value} {ls ls7 : List ByteArray} {lp lp7 : List (Int × ByteArray)} {t : ByteArray} {c : Int}
    (hgW : g < W.heap.size) (hWd : W.heap.size < gd) (hd : gd + 1 ≤ wr.heap.size) (hgy : wr.heap.size ≤ gy) (hb0 : gy < b0 ∨ w7.heap.size ≤ gy) (hb : wr.heap.size ≤ b0) (hb7 : b0 ≤ w7.heap.size)
    (hA : Only (fun k => k = g) wr w7) (hB : Only (fun k => k = gy) w7 wc) (hbox : BoxO wc gy us7 up7 t c)
    (ho : Own w7 b0 w7.heap.size us7 up7 ls7 lp7) (hp : OwnP w7 b0 up7 lp7) (hf : lp7.length = 0 → up7 = .slice none 0 0) (hr : c = 0 → rightB ls7 lp7 = true) (hS : S wc)
    (hg : Only (fun b => b = g) W wr) (hx1 : Box2 wr W.heap.size (.slice none 0 0) (.slice none 0 0)) (hx2 : Box2 wr gd us up) (hdo : DOwn wr lo hi us up ls lp) (hlo : W.heap.size < lo) (hgd : hi ≤ gd ∨ gd < lo) :
    RelY W g gd S us up ls lp (.pointer (some ⟨gy, 0, none⟩)) wc := by
  have hz7 := hA.size
  have hzc := hB.size
  have hzW := hg.size
  have hle := hdo.le
  have hAB : Only (fun k => k = g ∨ k = gy) wr wc := (hA.mono fun _ h => .inl h).trans (hB.mono fun _ h => .inr h)
  exact ⟨gy, us7, up7, ls7, lp7, t, c, b0, w7.heap.size, lo, hi, rfl, hbox, by omega, row_lt hbox, (dOwn_of ho hp hf hb7).only hB (fun k h1 h2 h3 => by omega), by omega, hb0, hr, hS, only_W hg hAB (fun k h1 h2 h3 => by omega), hAB.row hx1 (by omega), hAB.row hx2 (by omega), hdo.only hAB (fun k h1 h2 h3 => by omega), hlo, hgd, by omega⟩

theorem only_set2 {W : World} {b : Nat} {v0 v1 : Value} : Only (fun k => k = b) W ((W.setCell ⟨b, 0, none⟩ v0).setCell ⟨b, 1, none⟩ v1) :=
  ⟨rfl, rfl, rfl, by simp, fun k _ hk => by rw [Below.heap_setCell _ _ _ _ hk, Below.heap_setCell _ _ _ _ hk]⟩
theorem stD_set {W w8 : World} {g gd lo7 hi7 : Nat} {a : Option Addr} {len cap : Nat} {zs : List Int} {us up us7 up7 : Value} {ls7 : List ByteArray} {lp7 : List (Int × ByteArray)} (hgW : g < W.heap.size) (hWd : W.heap.size < gd) (hgs : gd + 1 ≤ w8.heap.size) (hS : Draw.Src w8 g a len cap zs) (hg7 : Only (fun b => b = g) W w8)
    (hx7 : Box2 w8 W.heap.size (.slice none 0 0) (.slice none 0 0)) (hz : Box2 w8 gd us up) (hd : DOwn w8 lo7 hi7 us7 up7 ls7 lp7) (hl7 : gd < lo7) (hr : rightB ls7 lp7 = true) : StD W g gd (fun x => Draw.Src x g a len cap zs) ((w8.setCell ⟨gd, 0, none⟩ us7).setCell ⟨gd, 1, none⟩ up7) :=
  ⟨src_only hS only_set2 (fun k hk e => by omega), only_W hg7 only_set2 (fun k h1 h2 h3 => by omega), by simp; omega, only_set2.row hx7 (by omega), us7, up7, ls7, lp7, lo7, hi7, row_set (row_set hz 0 us7) 1 up7, hd.only only_set2 (fun k h1 h2 h3 => by omega), by omega, .inr hl7, hr⟩

/-- An append to a list that owns its row: of the old blocks the row's alone has turned. -/
theorem wp_ownO {w : World} {ops : Array Oper} {rest : List Oper} {o : Oper} {a : Act} {Q : Exit → Act → World → Prop} (hgd : o.guard = none) (s x : Operand)
    (ho : o.op = .call { callee := .builtin .append, args := #[s, x], argTypes := #[24, 24] }) (base b : Nat) (v : Value) (lp : List (Int × ByteArray)) (y : Int) (t : ByteArray) (hs : a.eval s = v) (hx : a.eval x = .slice (some ⟨b, 0, none⟩) 1 1)
    (h : OwnP w base v lp) (hbase : base ≤ w.heap.size) (h0 : w.cell? ⟨b, 0, none⟩ = some (.int .i64 y)) (h1 : w.cell? ⟨b, 1, none⟩ = some (.string t)) (hn : lp.length ≤ 1100000)
    (hK : ∀ g cap w', OwnP w' base (.slice (some ⟨g, 0, none⟩) (lp.length + 1) cap) (lp ++ [(y, t)]) → (v.ownBlock = some g ∨ g = w.heap.size) → g < w'.heap.size → Only (fun k => v.ownBlock = some k) w w' → wpList Tryz.prog ops Q rest (a.put o.dst (.slice (some ⟨g, 0, none⟩) (lp.length + 1) cap)) w') : wpList Tryz.prog ops Q (o :: rest) a w := by
  obtain ⟨g', cap, w', hr, a1, a2, a3, a4⟩ := app_own o.type base b v lp y t w h hbase h0 h1 hn
  refine wp_app hgd s x _ ho _ _ _ w' hs hx hr (hK g' cap w' ?_ a2 a3 ⟨a4.os, a4.tape, a4.output, a4.size, fun k hk hn => a4.block k hk (fun e => hn e.symm)⟩)
  unfold OwnP
  rw [List.length_append]
  exact a1
/-- One more pending write behind the others. -/
theorem own_app {p : Nat → Prop} {W W' : World} {lo hi lo' hi' g : Nat} {us vb : Value} {ls : List ByteArray} {lp : List (Int × ByteArray)} {y : Int × ByteArray} {base cap : Nat} (h : DOwn W lo hi us vb ls lp) (hq : Only p W W') (hpk : ∀ k, lo ≤ k → k < hi → p k → vb.ownBlock = some k) (hp : OwnP W' base (.slice (some ⟨g, 0, none⟩) (lp.length + 1) cap) (lp ++ [y])) (hg : vb.ownBlock = some g ∨ W.heap.size ≤ g) (hlo : lo' ≤ lo) (hhi : hi ≤ hi') (hg1 : lo' ≤ g) (hg2 : g < hi') :
    Own W' lo' hi' us (.slice (some ⟨g, 0, none⟩) (lp.length + 1) cap) ls (lp ++ [y]) := by
  have hl := h.lt
  have hle := h.le
  have hfull := h.full
  obtain ⟨va, cs, vb', cp, gs, os, gp, op, e1, e2, a1, a2, a3, a4, a5⟩ := h.own
  have hne : ls.length = 0 ∨ vb.ownBlock ≠ some gs := by
    by_cases h0 : ls.length = 0
    · exact .inl h0
    · refine .inr (fun e => ?_)
      by_cases hp0 : lp.length = 0
      · rw [hfull hp0] at e; cases e
      · obtain ⟨q1, _, _⟩ := a3.resolve_left hp0
        rw [e2, q1] at e
        have : gp = gs := by simpa [Value.ownBlock] using e
        rcases a5 with a5 | a5 | a5
        · exact a5 this.symm
        · exact h0 a5
        · exact hp0 a5
  have hps : PendsAt W' g 0 (lp ++ [y]) := pends_of_own (base := base) (cap := cap) (by have e : (lp ++ [y]).length = lp.length + 1 := by simp
                                                                                        rw [e]; unfold OwnP at hp; rw [e] at hp; exact hp)
  refine ⟨va, cs, some ⟨g, 0, none⟩, cap, gs, os, g, 0, e1, by simp, a1.imp id (fun q => ⟨q.1, by omega, by omega⟩), a2.only hq (by by_cases h0 : ls.length = 0; exact .inl h0; exact .inr (fun e => (hne.resolve_left h0) (hpk gs (a1.resolve_left h0).2.1 (a1.resolve_left h0).2.2 e))), .inr ⟨rfl, hg1, hg2⟩, hps, ?_⟩
  by_cases h0 : ls.length = 0
  · exact .inr (.inl h0)
  · refine .inl (fun e => ?_)
    rcases hg with hg | hg
    · exact (hne.resolve_left h0) (by rw [hg, e])
    · have := (a1.resolve_left h0).2.2; omega

theorem own_set0 {W : World} {lo hi gs os ca : Nat} {up : Value} {ls : List ByteArray} {lp : List (Int × ByteArray)} (h : Own W lo hi (.slice (some ⟨gs, os, none⟩) ls.length ca) up ls lp) (h0 : 0 < ls.length) (t : ByteArray) : Own (W.setCell ⟨gs, os, none⟩ (.string t)) lo hi (.slice (some ⟨gs, os, none⟩) ls.length ca) up (ls.set 0 t) lp := by
  obtain ⟨va, cs, vb, cp, gs', os', gp, op, e1, e2, a1, a2, a3, a4, a5⟩ := h
  obtain ⟨q1, q2, q3⟩ := a1.resolve_left (by omega)
  injection e1 with e1 _ e3
  rw [q1] at e1
  injection e1 with e1
  injection e1 with e4 e5 _
  subst e4 e5 e3
  refine ⟨some ⟨gs, os, none⟩, ca, vb, cp, gs, os, gp, op, by simp, e2, .inr ⟨rfl, q2, q3⟩, a2.set (i := 0) h0 t, a3, ?_, ?_⟩
  · by_cases hp : lp.length = 0
    · exact fun j hj => absurd hj (by omega)
    · exact PendsAt.other a4 (by rcases a5 with a5 | a5 | a5; exact a5; omega; omega) _
  · rw [List.length_set]
    exact a5
theorem Own.len {W : World} {lo hi : Nat} {us up : Value} {ls ls' : List ByteArray} {lp : List (Int × ByteArray)} (h : Own W lo hi us up ls lp) (e : ls = ls') : Own W lo hi us up ls' lp := e ▸ h

/-- Where the last loop of the drawing stands: the sectors in block gs, the pending writes in a row of their own. -/
def StP (W : World) (g gd gs os ca : Nat) (S : World → Prop) (ls : List ByteArray) (lp : List (Int × ByteArray)) (wr : World) : Prop :=
  S wr ∧ Only (fun b => b = g) W wr ∧ gd + 1 ≤ wr.heap.size ∧ Box2 wr W.heap.size (.slice none 0 0) (.slice none 0 0) ∧ StrsAt wr gs os ls ∧ gs < wr.heap.size ∧
    ∃ vb cb, Box2 wr gd (.slice (some ⟨gs, os, none⟩) ls.length ca) (.slice vb lp.length cb) ∧ OwnP wr (W.heap.size + 1) (.slice vb lp.length cb) lp ∧ (∀ k, (Value.slice vb lp.length cb).ownBlock = some k → k ≠ gd ∧ k ≠ gs)
theorem StP.own {W : World} {gd gs os ca vc : Nat} {va : Option Addr} {ls : List ByteArray} {lp : List (Int × ByteArray)} {wr : World} (h1 : StrsAt wr gs os ls) (h2 : W.heap.size < gs) (h3 : gs < wr.heap.size) (h4 : OwnP wr (W.heap.size + 1) (.slice va lp.length vc) lp) (h5 : ∀ k, (Value.slice va lp.length vc).ownBlock = some k → k ≠ gd ∧ k ≠ gs) :
    Own wr (W.heap.size + 1) wr.heap.size (.slice (some ⟨gs, os, none⟩) ls.length ca) (.slice va lp.length vc) ls lp := by
  have h40 := h4
  have hlt := h4.lt
  rcases h4.2 with ⟨e, hn⟩ | ⟨gp, cap, cur, e, _, _⟩
  · exact ⟨some ⟨gs, os, none⟩, ca, va, vc, gs, os, 0, 0, rfl, rfl, .inr ⟨rfl, by omega, h3⟩, h1, .inl hn, fun j hj => absurd hj (by omega), .inr (.inr hn)⟩
  · injection e with e1 _ e3
    subst e1 e3
    have hb := hlt gp rfl
    have hq := h5 gp rfl
    exact ⟨some ⟨gs, os, none⟩, ca, some ⟨gp, 0, none⟩, vc, gs, os, gp, 0, rfl, rfl, .inr ⟨rfl, by omega, h3⟩, h1, .inr ⟨rfl, hb.1, hb.2⟩, pends_of_own h40, .inl (fun e => hq.2 e.symm)⟩

theorem grown_of_only {W W' : World} {g : Nat} (h : Only (fun b => b = g) W W') : W.grownBy W' (some g) := ⟨h.os, h.tape, h.output, h.size, fun k hk hn => h.block k hk (fun e => hn (by rw [e]))⟩
/-- The end: the disk is stored into the result's box. -/
theorem fin_mk {W w8 wf : World} {g : Nat} {a : Option Addr} {len cap : Nat} {zs : List Int} {us up : Value} {ls : List ByteArray} {lp : List (Int × ByteArray)} (hgW : g < W.heap.size) (hq : Only (fun k => k = W.heap.size) w8 wf) (ho : Own w8 (W.heap.size + 1) wf.heap.size us up ls lp) (hl : Little ls lp) (hs : Draw.Src w8 g a len cap zs) (hg : Only (fun b => b = g) W w8) :
    DiskDrawn W g (fun x => Draw.Src x g a len cap zs) (.returned (.agg #[us, up])) wf :=
  ⟨us, up, ls, lp, rfl, (ho.only hq (fun k h1 h2 h3 => by omega)).wide (by omega) (Nat.le_refl _), hl, src_only hs hq (fun k h1 h2 => by omega), grown_of_only (only_W hg hq (fun k h1 h2 h3 => by omega))⟩

theorem Own.noS {W : World} {lo hi : Nat} {us up : Value} {ls : List ByteArray} {lp : List (Int × ByteArray)} (h : Own W lo hi us up ls lp) : Own W lo hi (.slice none 0 0) up [] lp := by
  obtain ⟨va, cs, vb, cp, gs, os, gp, op, e1, e2, a1, a2, a3, a4, a5⟩ := h
  exact ⟨none, 0, vb, cp, 0, 0, gp, op, rfl, e2, .inl rfl, fun j hj => absurd hj (by simp), a3, a4, .inr (.inl rfl)⟩
theorem only_set1 {W : World} {b o : Nat} {v0 : Value} : Only (fun k => k = b) W (W.setCell ⟨b, o, none⟩ v0) :=
  ⟨rfl, rfl, rfl, by simp, fun k _ hk => by rw [Below.heap_setCell _ _ _ _ hk]⟩

attribute [local go_sem ↓] Go.wp_at_zero Go.wp_at_succ

set_option maxRecDepth 100000 in
set_option maxHeartbeats 40000000 in
theorem l03Disk_any (W : World) (g : Nat) (a : Option Addr) (len cap : Nat) (zs : List Int) (h : Draw.Src W g a len cap zs) :
    Calls Tryz.prog 25 #[.pointer (some ⟨g, 0, none⟩)] W fun e W' => DiskDrawn W g (fun x => Draw.Src x g a len cap zs) e W' := by
  have HN : Hid (∀ (m : Int) W, Draw.Src W g a len cap zs → m ≤ 100 → Calls Tryz.prog 23 #[.pointer (some ⟨g, 0, none⟩), .int .i64 m] W fun e W' => ∃ v : Int, e = .returned (.int .i64 v) ∧ Num m v ∧ Draw.Src W' g a len cap zs ∧ W.grownBy W' (some g)) := fun m W h hm => n_any W g a len cap zs m h (by omega)
  have HO : Hid (∀ (m : Int) W, Draw.Src W g a len cap zs → m ≤ 100 → Calls Tryz.prog 24 #[.pointer (some ⟨g, 0, none⟩), .int .i64 m] W fun e W' => ∃ b : Bool, e = .returned (.bool b) ∧ Draw.Src W' g a len cap zs ∧ W.grownBy W' (some g)) := fun m W h hm => one_any W g a len cap zs m h (by omega)
  have hgl := src_lt h
  have HS : Hid (Draw.Src W g a len cap zs) := h
  clear h
  go_enter Tryz.func25, Tryz.ntmps25
  go_wp2_with fail
  have hb0 : Below W.heap.size W (W.alloc (.cells #[.slice none 0 0, .slice none 0 0] 26)) := bself _
  refine (HN.out 9 _ (src_below HS.out hb0 hgl) (by omega)).mono ?_
  rintro e w1 ⟨v, rfl, hv, hs1, hg1⟩
  obtain ⟨m, rfl⟩ := Int.eq_ofNat_of_zero_le hv.1
  have hm9 : (m : Int) < 9 := hv.2.1 (by omega)
  have hz1 := hg1.size
  simp at hz1
  have HS1 : Hid _ := hs1
  have HG1 : Hid (Only (fun k => k = g) W w1) := (Only.of_below _ hb0).trans (Only.of_grown hg1 rfl)
  have HR1 : Hid (Box2 w1 W.heap.size (.slice none 0 0) (.slice none 0 0)) := Only.row (p := fun k => k = g) (Only.of_grown hg1 rfl) (Sha.row_new W [.slice none 0 0, .slice none 0 0] 26) (by omega)
  clear hs1 hg1 hb0 hv
  go_wp2_with fail
  refine (specNew_own _ _).mono ?_
  rintro e w2 ⟨us, up, rfl, ho2, hb2, hp2, hf2⟩
  obtain ⟨va, ca, vb, cb, rfl, rfl⟩ := ho2.shape
  have hz2 := hb2.size
  have hnl : 1 ≤ (newD (1 + (m : Int))).length := by rw [newD_yes (by omega) (by omega)]; simp; omega
  have HRB : Hid (rightB (newD (1 + (m : Int))) [] = true) := by
    refine right_yes ⟨hnl, length_newD _, by simp, fun t ht => ?_, by simp⟩
    rw [newD_yes (by omega) (by omega)] at ht
    rw [List.eq_of_mem_replicate ht]
    simp
  have hq2 : Below w2.heap.size w2 (w2.alloc (.cells #[.slice va (newD (1 + (m : Int))).length ca, .slice vb 0 cb] 26)) := bself _
  have HD2 : Hid (DOwn (w2.alloc (.cells #[.slice va (newD (1 + (m : Int))).length ca, .slice vb 0 cb] 26)) w1.heap.size w2.heap.size (.slice va (newD (1 + (m : Int))).length ca) (.slice vb 0 cb) (newD (1 + (m : Int))) []) := (dOwn_of ho2 hp2 hf2 hz2).below hq2
  have HS2 : Hid _ := src_below (src_below HS1.out hb2 (by omega)) hq2 (by omega)
  have HG2 : Hid (Only (fun k => k = g) W (w2.alloc (.cells #[.slice va (newD (1 + (m : Int))).length ca, .slice vb 0 cb] 26))) := (HG1.out.trans (Only.of_below _ hb2)).trans (Only.of_below _ hq2)
  have HR2 : Hid _ := Box2.below (Box2.below HR1.out hb2 (by omega)) hq2 (by omega)
  have HX2 : Hid (Box2 (w2.alloc (.cells #[.slice va (newD (1 + (m : Int))).length ca, .slice vb 0 cb] 26)) w2.heap.size (.slice va (newD (1 + (m : Int))).length ca) (.slice vb 0 cb)) := box2_at w2 _ _
  clear ho2 hb2 hp2 hf2 hq2 hnl HS1 HG1 HR1
  generalize newD (1 + (m : Int)) = l0 at *
  go_wp2_with fail
  refine (HN.out 9 _ HS2.out (by omega)).mono ?_
  rintro e w3 ⟨v, rfl, hv, hs3, hg3⟩
  obtain ⟨k0, rfl⟩ := Int.eq_ofNat_of_zero_le hv.1
  have hk9 : (k0 : Int) < 9 := hv.2.1 (by omega)
  have hz3 := hg3.size
  simp at hz3
  have hq3 : Only (fun k => k = g) _ w3 := Only.of_grown hg3 rfl
  have HS3 : Hid _ := hs3
  have HG3 : Hid (Only (fun k => k = g) W w3) := HG2.out.trans hq3
  have HR3 : Hid _ := Only.row hq3 HR2.out (by omega)
  have HX3 : Hid _ := Only.row hq3 HX2.out (by omega)
  have HD3 : Hid _ := DOwn.only HD2.out hq3 (fun k h1 h2 h3 => by omega)
  clear hs3 hg3 hq3 hv HS2 HG2 HR2 HX2 HD2
  go_wp2_with fail
  go_loopw [4] (fun i wr => ∃ k : Nat, k ≤ 8 ∧ i = .int .i64 k ∧ StD W g w2.heap.size (fun x => Draw.Src x g a len cap zs) wr) (fun i _ => (intOf i).toNat)
  case atStart => exact ⟨k0, by omega, rfl, HS3.out, HG3.out, by omega, HR3.out, _, _, _, _, w1.heap.size, w2.heap.size, HX3.out, HD3.out, by omega, .inl (Nat.le_refl _), HRB.out⟩
  case round =>
    clear HS3 HG3 HR3 HX3 HD3 HRB
    obtain ⟨k, hk, rfl, hs, hg, hsz, hr, us, up, ls, lp, lo, hi, hx, hd, hlo, hgd, hrb⟩ := hrel
    obtain ⟨va, ca, vb, cb, rfl, rfl⟩ := hd.own.shape
    obtain ⟨c0, c1, cf⟩ := hx.cells
    have hle := hd.le
    have HSK : Hid _ := hs
    have HG : Hid _ := hg
    have HR : Hid _ := hr
    have HX : Hid _ := hx
    have HD : Hid _ := hd
    have HRB : Hid _ := hrb
    have hl := right_little hrb
    have HL : Hid _ := hl
    have hgl2 := src_lt hs
    have hWr := hg.size
    clear hs hg hr hx hd hrb hl
    by_cases hk0 : 0 < k
    · go_wp2_with fail
      go_cut [5] (fun y wc => RelY W g w2.heap.size (fun x => Draw.Src x g a len cap zs) (.slice va ls.length ca) (.slice vb lp.length cb) ls lp y wc)
      case first =>
        go_region_held3 (fun w' => w'.cell? ⟨w2.heap.size, 0, none⟩ = some (.slice va ls.length ca) ∧ w'.cell? ⟨w2.heap.size, 1, none⟩ = some (.slice vb lp.length cb))
          (first
            | (go_split_ands; refine ⟨?_, ?_⟩ <;> (first | exact c0 | exact c1))
            | (go_keep; done)
            | (go_split_ands; refine ⟨?_, ?_⟩ <;> (rw [cell_far4 (by go_light; omega)]; first | exact c0 | exact c1)))
          (first
            | (go_at_call_of 23 (Value.int .i64 9); refine (HN.out 9 _ (by first | exact HSK.out | exact src_below HSK.out (bself _) (src_lt HSK.out) | exact src_drew HSK.out | exact src_drew (src_below HSK.out (bself _) (src_lt HSK.out))) (by go_light; omega)).mono ?_; rintro e w4 ⟨v, rfl, hv4, hs4, hg4⟩; have hq4 : Only (fun k => k = g) _ w4 := Only.of_grown hg4 rfl; have hA4 : Only (fun k => k = g) wr w4 := Only.trans (Only.of_below _ (by repeat' (first | exact Below.refl _ _ | apply bD | apply bA))) hq4; have hv4z := hq4.size; (try simp only [World.drew, World.size_alloc] at hv4z); have hz4 := hA4.size; have cc0 := (hA4.cell (a := ⟨w2.heap.size, 0, none⟩) (by go_light; simp only; omega) (by go_light; simp only; omega)).trans c0; have cc1 := (hA4.cell (a := ⟨w2.heap.size, 1, none⟩) (by go_light; simp only; omega) (by go_light; simp only; omega)).trans c1; clear c0 c1; have c0 := cc0; have c1 := cc1; clear cc0 cc1; (first | (have zz' := Only.row hq4 zz (by have hyy := zz_ne; go_light; omega); clear zz y0 y1 y2 y3 yf; have zz := zz'; clear zz'; obtain ⟨y0, y1, y2, y3, yf⟩ := Box4.cells zz) | (have zz : Box4 w4 wr.heap.size := Only.row hq4 (Sha.row_new wr [.slice none 0 0, .slice none 0 0, .string ByteArray.empty, .int .i64 0] 69) (by go_light; omega); have zz_ne : wr.heap.size ≠ g ∧ w2.heap.size + 1 ≤ wr.heap.size := (by go_light; omega); obtain ⟨y0, y1, y2, y3, yf⟩ := Box4.cells zz) | skip); have HS4 : Hid _ := hs4; have HQ4 : Hid _ := hA4; obtain ⟨x0, rfl⟩ := Int.eq_ofNat_of_zero_le hv4.1; clear hs4 hg4 hq4 hA4 hv4)
            | (go_at_call_of 23 (Value.int .i64 5); refine (HN.out 5 _ (by first | exact HS4.out | exact src_below HS4.out (bself _) (src_lt HS4.out) | exact src_drew HS4.out | exact src_drew (src_below HS4.out (bself _) (src_lt HS4.out))) (by go_light; omega)).mono ?_; rintro e w5 ⟨v, rfl, hv5, hs5, hg5⟩; have hq5 : Only (fun k => k = g) _ w5 := Only.of_grown hg5 rfl; have hA5 : Only (fun k => k = g) w4 w5 := Only.trans (Only.of_below _ (by repeat' (first | exact Below.refl _ _ | apply bD | apply bA))) hq5; have hv5z := hq5.size; (try simp only [World.size_alloc] at hv5z); have hz5 := hA5.size; have cc0 := (hA5.cell (a := ⟨w2.heap.size, 0, none⟩) (by go_light; simp only; omega) (by go_light; simp only; omega)).trans c0; have cc1 := (hA5.cell (a := ⟨w2.heap.size, 1, none⟩) (by go_light; simp only; omega) (by go_light; simp only; omega)).trans c1; clear c0 c1; have c0 := cc0; have c1 := cc1; clear cc0 cc1; (first | (have zz' := Only.row hq5 zz (by have hyy := zz_ne; go_light; omega); clear zz y0 y1 y2 y3 yf; have zz := zz'; clear zz'; obtain ⟨y0, y1, y2, y3, yf⟩ := Box4.cells zz) | (have zz : Box4 w5 w4.heap.size := Only.row hq5 (Sha.row_new w4 [.slice none 0 0, .slice none 0 0, .string ByteArray.empty, .int .i64 0] 69) (by go_light; omega); have zz_ne : w4.heap.size ≠ g ∧ w2.heap.size + 1 ≤ w4.heap.size := (by go_light; omega); obtain ⟨y0, y1, y2, y3, yf⟩ := Box4.cells zz) | skip); have HS5 : Hid _ := hs5; have HQ5 : Hid _ := hA5; obtain ⟨n0, rfl⟩ := Int.eq_ofNat_of_zero_le hv5.1; have hn5 : (n0 : Int) < 5 := hv5.2.1 (by go_light; omega); clear hs5 hg5 hq5 hA5 hv5)
            | (go_at_call 22; refine (bytes_any _ g a len cap zs n0 (by first | exact HS5.out | exact src_below HS5.out (bself _) (src_lt HS5.out) | exact src_drew HS5.out | exact src_drew (src_below HS5.out (bself _) (src_lt HS5.out))) (by go_light; omega)).mono ?_; rintro e w6 ⟨t, rfl, ht6, hs6, hg6⟩; have hq6 : Only (fun k => k = g) _ w6 := Only.of_grown hg6 rfl; have hA6 : Only (fun k => k = g) w5 w6 := Only.trans (Only.of_below _ (by repeat' (first | exact Below.refl _ _ | apply bD | apply bA))) hq6; have hv6z := hq6.size; (try simp only [World.size_alloc] at hv6z); have hz6 := hA6.size; have cc0 := (hA6.cell (a := ⟨w2.heap.size, 0, none⟩) (by go_light; simp only; omega) (by go_light; simp only; omega)).trans c0; have cc1 := (hA6.cell (a := ⟨w2.heap.size, 1, none⟩) (by go_light; simp only; omega) (by go_light; simp only; omega)).trans c1; clear c0 c1; have c0 := cc0; have c1 := cc1; clear cc0 cc1; (first | (have zz' := Only.row hq6 zz (by have hyy := zz_ne; go_light; omega); clear zz y0 y1 y2 y3 yf; have zz := zz'; clear zz'; obtain ⟨y0, y1, y2, y3, yf⟩ := Box4.cells zz) | (have zz : Box4 w6 w5.heap.size := Only.row hq6 (Sha.row_new w5 [.slice none 0 0, .slice none 0 0, .string ByteArray.empty, .int .i64 0] 69) (by go_light; omega); have zz_ne : w5.heap.size ≠ g ∧ w2.heap.size + 1 ≤ w5.heap.size := (by go_light; omega); obtain ⟨y0, y1, y2, y3, yf⟩ := Box4.cells zz) | skip); have HS6 : Hid _ := hs6; have HQ6 : Hid _ := hA6; have hts : t.size ≤ 4 := (by go_light; omega); clear hs6 hg6 hq6 hA6 ht6)
            | (go_at_call 44; have hd6 : DOwn w6 lo hi _ _ ls lp := DOwn.only (DOwn.only (DOwn.only HD.out HQ4.out (fun k h1 h2 h3 => by go_light; omega)) HQ5.out (fun k h1 h2 h3 => by go_light; omega)) HQ6.out (fun k h1 h2 h3 => by go_light; omega); refine (specWrite_own _ _ ls lp _ _ _ (Strs.below hd6.own.strs (by repeat' (first | exact Below.refl _ _ | apply bD | apply bA))) (Pends.below hd6.own.pends (by repeat' (first | exact Below.refl _ _ | apply bD | apply bA))) (by go_light; omega) HL.out.fits.n HL.out.fits.m HL.out.fits.t HL.out.fits.y).mono ?_; rintro e w7 ⟨us7, up7, rfl, ho7, hb7, hp7, hf7⟩; have HRR : Hid _ := writeO_right (ls := ls) (lp := lp) (x := (x0 : Int)) (t := t); generalize writeO ls lp (x0 : Int) t = o7 at *; obtain ⟨ls7, lp7, t7, c7⟩ := o7; simp only at ho7 hp7 hf7; obtain ⟨va7, ca7, vb7, cb7, rfl, rfl⟩ := ho7.shape; have hq7 : Only (fun k => k = g) _ w7 := Only.of_below _ hb7; have hA7 : Only (fun k => k = g) w6 w7 := Only.trans (Only.of_below _ (by repeat' (first | exact Below.refl _ _ | apply bD | apply bA))) hq7; have hv7z := hq7.size; (try simp only [World.size_alloc] at hv7z); have hz7 := hA7.size; have cc0 := (hA7.cell (a := ⟨w2.heap.size, 0, none⟩) (by go_light; simp only; omega) (by go_light; simp only; omega)).trans c0; have cc1 := (hA7.cell (a := ⟨w2.heap.size, 1, none⟩) (by go_light; simp only; omega) (by go_light; simp only; omega)).trans c1; clear c0 c1; have c0 := cc0; have c1 := cc1; clear cc0 cc1; (first | (have zz' := Only.row hq7 zz (by have hyy := zz_ne; go_light; omega); clear zz y0 y1 y2 y3 yf; have zz := zz'; clear zz'; obtain ⟨y0, y1, y2, y3, yf⟩ := Box4.cells zz) | (have zz : Box4 w7 w6.heap.size := Only.row hq7 (Sha.row_new w6 [.slice none 0 0, .slice none 0 0, .string ByteArray.empty, .int .i64 0] 69) (by go_light; omega); have zz_ne : w6.heap.size ≠ g ∧ w2.heap.size + 1 ≤ w6.heap.size := (by go_light; omega); obtain ⟨y0, y1, y2, y3, yf⟩ := Box4.cells zz) | skip); have HQ7 : Hid _ := hA7; have HO7 : Hid _ := ho7; have HP7 : Hid _ := hp7; have HF7 : Hid _ := hf7; have hz67 := hb7.size; (try simp only [World.size_alloc] at hz67); have HS7 : Hid (Draw.Src w7 g a len cap zs) := src_below (by first | exact HS6.out | exact src_below HS6.out (bself _) (src_lt HS6.out) | exact src_drew HS6.out | exact src_drew (src_below HS6.out (bself _) (src_lt HS6.out))) hb7 (by have := src_lt HS6.out; first | omega | (simp only [World.size_alloc]; omega) | (simp; omega)); clear hq7 hA7 ho7 hp7 hf7 hb7 hd6))
        all_goals have hA7 : Only (fun k => k = g) wr w7 := ((HQ4.out.trans HQ5.out).trans HQ6.out).trans HQ7.out
        all_goals go_wp2_with fail
        all_goals go_meet
        all_goals go_light
        all_goals first
          | exact relY_mk hgl (by omega) hsz (by omega) (.inl (by first | omega | (simp only [World.size_alloc]; omega))) (by first | omega | (simp only [World.size_alloc]; omega)) (by first | omega | (simp only [World.size_alloc]; omega)) hA7 only_set4 (box_set4 zz) HO7.out HP7.out HF7.out HRR.out (src_set4 HS7.out (by omega)) HG.out HR.out HX.out HD.out hlo hgd
          | exact relY_mk hgl (by omega) hsz (by omega) (.inr (by omega)) (by omega) (by omega) hA7 (Only.of_below _ (bself _)) (boxO_at w7 _ _ _ _) HO7.out HP7.out HF7.out HRR.out (src_below HS7.out (bself _) (src_lt HS7.out)) HG.out HR.out HX.out HD.out hlo hgd
      case rest =>
        clear HSK HG HR HX HD c0 c1 cf
        obtain ⟨gy, us7, up7, ls7, lp7, t7, c7, lo7, hi7, lo2, hi2, rfl, hy, hyd, hyl, hd7, hl7, hy7, hr7, hs7, hg7, hx7, hz7, hdd, hlo2, hgd2, hyy⟩ := hcut
        obtain ⟨va7, ca7, vb7, cb7, rfl, rfl⟩ := hd7.own.shape
        have H7 : Hid (∀ w8, Only (fun k => k = g) wc w8 → BoxO w8 gy (.slice va7 ls7.length ca7) (.slice vb7 lp7.length cb7) t7 c7 ∧ DOwn w8 lo7 hi7 (.slice va7 ls7.length ca7) (.slice vb7 lp7.length cb7) ls7 lp7 ∧ Only (fun k => k = g) W w8 ∧ Box2 w8 W.heap.size (.slice none 0 0) (.slice none 0 0) ∧ Box2 w8 w2.heap.size (.slice va ls.length ca) (.slice vb lp.length cb) ∧ DOwn w8 lo2 hi2 (.slice va ls.length ca) (.slice vb lp.length cb) ls lp) := fun w8 h8 => ⟨h8.row hy (by omega), hd7.only h8 (fun k h1 h2 h3 => by omega), only_W hg7 h8 (fun k h1 h2 h3 => by omega), h8.row hx7 (by omega), h8.row hz7 (by omega), hdd.only h8 (fun k h1 h2 h3 => by omega)⟩
        have HS7 : Hid _ := hs7
        have HR7 : Hid _ := hr7
        clear hy hd7 hg7 hx7 hz7 hdd hs7 hr7
        go_wp2_with fail
        refine (HO.out 5 _ HS7.out (by omega)).mono ?_
        rintro e w8 ⟨b, rfl, hs8, hg8⟩
        obtain ⟨hy, hd7, hg7, hx7, hz7, hdd⟩ := H7.out w8 (Only.of_grown hg8 rfl)
        have hz8 := hg8.size
        have HS8 : Hid _ := hs8
        have HB8 : Hid _ := hd7
        have HG8 : Hid _ := hg7
        have HX8 : Hid _ := hx7
        have HZ8 : Hid _ := hz7
        have HE8 : Hid _ := hdd
        have HYB : Hid _ := hy
        obtain ⟨y0, y1, y2, y3⟩ := hy.cells
        obtain ⟨z0, z1, zf⟩ := hz7.cells
        clear hs8 hg8 hy hd7 hg7 hx7 hz7 hdd
        cases b
        · by_cases hc : c7 = 0
          · have hce : (c7 == 0) = true := by simp [hc]
            have hrr := HR7.out hc
            have HRR : Hid _ := hrr
            clear hc hrr
            go_wp2_with fail
            go_roundw
            case rel => exact ⟨k - 1, by omega, by congr 1; omega, stD_set hgl (by omega) (by omega) HS8.out HG8.out HX8.out HZ8.out HB8.out hl7 HRR.out⟩
            case measure => simp [intOf]; omega
          · have hce : (c7 == 0) = false := by simp [hc]
            go_wp2_with fail
            go_roundw
            case rel => exact ⟨k - 1, by omega, by congr 1; omega, HS8.out, HG8.out, by omega, HX8.out, _, _, _, _, lo2, hi2, HZ8.out, HE8.out, hlo2, hgd2, HRB.out⟩
            case measure => simp [intOf]; omega
        · go_wp2_with fail
          refine (specFlush_own _ _ ls lp _ (Own.strs HE8.out.own) (Own.pends HE8.out.own) HL.out.fits.n HL.out.fits.m HL.out.fits.t HL.out.fits.y).mono ?_
          rintro e w9 ⟨us9, up9, rfl, ho9, hb9, hp9, hf9⟩
          have hrr := flushO_right (ls := ls) (lp := lp)
          generalize flushO ls lp = o9 at *
          obtain ⟨ls9, lp9, t9, c9⟩ := o9
          simp only at ho9 hp9 hf9 hrr
          obtain ⟨va9, ca9, vb9, cb9, rfl, rfl⟩ := ho9.shape
          have hz9 := hb9.size
          have hq9 : Only (fun k => k = g) w8 w9 := Only.of_below _ hb9
          have HYB9 : Hid _ := hq9.row HYB.out (by omega)
          have HS9 : Hid _ := src_below HS8.out hb9 (by have := src_lt HS8.out; omega)
          have HG9 : Hid _ := only_W HG8.out hq9 (fun k h1 h2 h3 => by omega)
          have HX9 : Hid (Box2 w9 W.heap.size (.slice none 0 0) (.slice none 0 0)) := hq9.row HX8.out (by omega)
          have HZ9 : Hid (Box2 w9 w2.heap.size (.slice va ls.length ca) (.slice vb lp.length cb)) := hq9.row HZ8.out (by omega)
          have HE9 : Hid _ := DOwn.only HE8.out hq9 (fun k h1 h2 h3 => by omega)
          have HD9 : Hid _ := dOwn_of ho9 hp9 hf9 hz9
          have HRR : Hid _ := hrr
          clear y0 y1 y2 y3 z0 z1 zf
          obtain ⟨y0, y1, y2, y3⟩ := BoxO.cells HYB9.out
          obtain ⟨z0, z1, zf⟩ := Box2.cells HZ9.out
          have yf : ∀ o, w9.frozen? ⟨gy, o, none⟩ = false := Mem.frozen_of_row HYB9.out
          have hgne : ¬ gy = w2.heap.size := by omega
          clear ho9 hb9 hp9 hf9 hq9 hrr
          have hF : Only (fun k => k = gy) w9 ((((w9.setCell ⟨gy, 0, none⟩ (.slice va9 ls9.length ca9)).setCell ⟨gy, 1, none⟩ (.slice vb9 lp9.length cb9)).setCell ⟨gy, 2, none⟩ (.string t9)).setCell ⟨gy, 3, none⟩ (.int .i64 c9)) := only_set4
          have HSF : Hid _ := src_set4 (v0 := .slice va9 ls9.length ca9) (v1 := .slice vb9 lp9.length cb9) (v2 := .string t9) (v3 := .int .i64 c9) (b := gy) HS9.out (by omega)
          have HGF : Hid _ := only_W HG9.out hF (fun k h1 h2 h3 => by omega)
          have HXF : Hid _ := hF.row HX9.out (by omega)
          have HZF : Hid _ := hF.row HZ9.out (by omega)
          by_cases hc : c9 = 0
          · have hce : (c9 == 0) = true := by simp [hc]
            have HRQ : Hid _ := HRR.out hc
            have HDF : Hid _ := DOwn.only HD9.out hF (fun k h1 h2 h3 => by omega)
            clear hc hF
            go_wp2_with fail
            go_roundw
            case rel => exact ⟨k - 1, by omega, by congr 1; omega, stD_set hgl (by omega) (by simp; omega) HSF.out HGF.out HXF.out HZF.out HDF.out (by omega) HRQ.out⟩
            case measure => simp [intOf]; omega
          · have hce : (c9 == 0) = false := by simp [hc]
            have HEF : Hid _ := DOwn.only HE9.out hF (fun k h1 h2 h3 => by omega)
            clear hF
            go_wp2_with fail
            go_roundw
            case rel => exact ⟨k - 1, by omega, by congr 1; omega, HSF.out, HGF.out, by simp; omega, HXF.out, _, _, _, _, lo2, hi2, HZF.out, HEF.out, hlo2, hgd2, HRB.out⟩
            case measure => simp [intOf]; omega
    · obtain rfl : k = 0 := by omega
      have hWr2 := HG.out.size
      go_wp2_with fail
      refine (HO.out 15 _ HSK.out (by omega)).mono ?_
      rintro e w8 ⟨b, rfl, hs8, hg8⟩
      have h8 : Only (fun k => k = g) wr w8 := Only.of_grown hg8 rfl
      have hz8 := h8.size
      have HS8 : Hid _ := hs8
      have HG8 : Hid _ := only_W HG.out h8 (fun k h1 h2 h3 => by omega)
      have HX8 : Hid (Box2 w8 W.heap.size (.slice none 0 0) (.slice none 0 0)) := h8.row HR.out (by omega)
      have HZ8 : Hid (Box2 w8 w2.heap.size (.slice va ls.length ca) (.slice vb lp.length cb)) := h8.row HX.out (by omega)
      have HE8 : Hid _ := DOwn.only HD.out h8 (fun k h1 h2 h3 => by omega)
      clear hs8 hg8 h8 c0 c1 cf HSK HG HR HX HD
      obtain ⟨z0, z1, zf⟩ := Box2.cells HZ8.out
      obtain ⟨q0, q1, qf⟩ := Box2.cells HX8.out
      have hgne : ¬ W.heap.size = w2.heap.size := by omega
      cases b
      · go_wp2_with fail
        refine bodyPost_ret (v := .agg #[.slice va ls.length ca, .slice vb lp.length cb]) (by simp [results, Tryz.results25, go_sem, q0, q1]) rfl (fin_mk hgl only_set2 (Own.wide HE8.out.own (by omega) (by have := HE8.out.le; simp; omega)) HL.out HS8.out HG8.out)
      · go_wp2_with fail
        refine (HN.out 4 _ HS8.out (by omega)).mono ?_
        rintro e w9 ⟨v, rfl, hv, hs9, hg9⟩
        obtain ⟨c, rfl⟩ := Int.eq_ofNat_of_zero_le hv.1
        have hc4 : (c : Int) < 4 := hv.2.1 (by omega)
        have h9 : Only (fun k => k = g) w8 w9 := Only.of_grown hg9 rfl
        have hz9 := h9.size
        have HS9 : Hid _ := hs9
        have HG9 : Hid _ := only_W HG8.out h9 (fun k h1 h2 h3 => by omega)
        have HX9 : Hid (Box2 w9 W.heap.size (.slice none 0 0) (.slice none 0 0)) := h9.row HX8.out (by omega)
        have HZ9 : Hid (Box2 w9 w2.heap.size (.slice va ls.length ca) (.slice vb lp.length cb)) := h9.row HZ8.out (by omega)
        have HE9 : Hid _ := DOwn.only HE8.out h9 (fun k h1 h2 h3 => by omega)
        clear hs9 hg9 h9 hv z0 z1 zf q0 q1 qf HS8 HG8 HX8 HZ8 HE8
        obtain ⟨z0, z1, zf⟩ := Box2.cells HZ9.out
        obtain ⟨q0, q1, qf⟩ := Box2.cells HX9.out
        have hcc : c = 0 ∨ c = 1 ∨ c = 2 ∨ c = 3 := by omega
        rcases hcc with rfl | rfl | rfl | rfl
        · have h0 : Only (fun k => k = w2.heap.size) w9 (w9.setCell ⟨w2.heap.size, 0, none⟩ (.slice none 0 0)) := only_set1
          have HOF : Hid (Own (w9.setCell ⟨w2.heap.size, 0, none⟩ (.slice none 0 0)) lo hi (.slice none 0 0) (.slice vb lp.length cb) [] lp) := Own.noS (Own.only HE9.out.own h0 (fun k h1 h2 h3 => by omega))
          have HSF : Hid _ := src_only HS9.out h0 (fun k h1 h2 => by omega)
          have HGF : Hid _ := only_W HG9.out h0 (fun k h1 h2 h3 => by omega)
          clear h0
          go_wp2_with fail
          exact bodyPost_ret (v := .agg #[.slice none 0 0, .slice vb lp.length cb]) (by simp [results, Tryz.results25, go_sem, q0, q1]) rfl (fin_mk hgl only_set2 (Own.wide HOF.out (by omega) (by have := HE9.out.le; simp; omega)) ⟨by simp, HL.out.m, by simp, HL.out.y⟩ HSF.out HGF.out)
        · have hle9 := HE9.out.le
          have hll9 := HE9.out.ll
          have hblt := HE9.out.lt
          have hblo := HE9.out.ownp.lt
          have HNE : Hid (∀ k, (Value.slice vb lp.length cb).ownBlock = some k → k ≠ w2.heap.size ∧ k ≠ W.heap.size ∧ k ≠ g ∧ W.heap.size < k ∧ k < hi) := fun k hk => by have := hblt k hk; have := (hblo k hk).1; omega
          clear hblt hblo
          go_wp2_with (at_builtin; refine wp_ownO (by rfl) _ _ (by rfl) lo w9.heap.size (.slice vb lp.length cb) lp (ls.length : Int) ByteArray.empty (by rfl) (by rfl) (OwnP.below HE9.out.ownp (bself _) (Nat.le_refl _)) (by simp; omega) (by simp) (by simp; rfl) (by have := HL.out.m; omega) ?_; intro gp cp wA hoA hgA hlA hqA; simp at hgA; have hzA := hqA.size; simp at hzA; have hqB : Only (fun k => (Value.slice vb lp.length cb).ownBlock = some k) w9 wA := Only.trans (Only.of_below _ (bself _)) hqA; obtain ⟨q0, q1, qf⟩ := Box2.cells (hqB.row HX9.out (fun e => (HNE.out _ e).2.1 rfl)); obtain ⟨z0, z1, zf⟩ := Box2.cells (hqB.row HZ9.out (fun e => (HNE.out _ e).1 rfl)); have HOA : Hid _ := hoA; have HGA : Hid _ := hgA; have HQB : Hid _ := hqB; clear hoA hqA hgA hqB)
          have hAll : Only (fun k => (Value.slice vb lp.length cb).ownBlock = some k ∨ k = w2.heap.size) w9 (wA.setCell ⟨w2.heap.size, 1, none⟩ (.slice (some ⟨gp, 0, none⟩) (lp.length + 1) cp)) := (HQB.out.mono fun _ h => .inl h).trans (only_set1.mono fun _ h => .inr h)
          have hgpn : gp ≠ w2.heap.size ∧ W.heap.size < gp := by
            rcases HGA.out with h | h
            · have := HNE.out _ (show (Value.slice vb lp.length cb).ownBlock = some gp by simpa [Value.ownBlock] using h); omega
            · omega
          have HOF : Hid (Own (wA.setCell ⟨w2.heap.size, 1, none⟩ (.slice (some ⟨gp, 0, none⟩) (lp.length + 1) cp)) (W.heap.size + 1) wA.heap.size (.slice va ls.length ca) (.slice (some ⟨gp, 0, none⟩) (lp.length + 1) cp) ls (lp ++ [((ls.length : Int), ByteArray.empty)])) := by
            refine own_app HE9.out hAll (fun k h1 h2 h3 => h3.resolve_right (by omega)) (OwnP.setCell HOA.out (by simp [Value.ownBlock]; omega) _) ?_ (by omega) (by omega) (by omega) hlA
            rcases HGA.out with h | h
            · exact .inl (by simpa [Value.ownBlock] using h)
            · exact .inr (by omega)
          have HLF : Hid (Little ls (lp ++ [((ls.length : Int), ByteArray.empty)])) := by
            refine ⟨HL.out.n, ?_, HL.out.t, fun y hy => ?_⟩
            · have := ((right_iff ls lp).1 HRB.out).2.2.1; simp; omega
            · rcases List.mem_append.1 hy with hy | hy
              · exact HL.out.y y hy
              · obtain rfl : y = ((ls.length : Int), ByteArray.empty) := by simpa using hy
                have := HL.out.n
                exact ⟨by simp, by simp, by simp; omega⟩
          exact bodyPost_ret (v := .agg #[.slice va ls.length ca, .slice (some ⟨gp, 0, none⟩) (lp.length + 1) cp]) (by simp [results, Tryz.results25, go_sem, q0, q1]) rfl (fin_mk hgl only_set2 (Own.wide HOF.out (by omega) (by simp)) HLF.out (src_only HS9.out hAll (fun k h1 h2 => by rcases h2 with h2 | h2; exact absurd h1 (by have := HNE.out _ h2; omega); omega)) (only_W HG9.out hAll (fun k h1 h2 h3 => by rcases h3 with h3 | h3; exact absurd h1 (by have := HNE.out _ h3; omega); omega)))
        · have hr1 := ((right_iff ls lp).1 HRB.out).1
          obtain ⟨gs, os, hva, hsA, hgs1, hgs2, hgsn⟩ : ∃ gs os, va = some ⟨gs, os, none⟩ ∧ StrsAt w9 gs os ls ∧ lo ≤ gs ∧ gs < hi ∧ Own w9 lo hi (.slice va ls.length ca) (.slice vb lp.length cb) ls lp := by
            have ho := HE9.out.own
            obtain ⟨va', cs, vb', cp, gs, os, gp, op, e1, e2, a1, a2, a3, a4, a5⟩ := ho
            obtain ⟨q1, q2, q3⟩ := a1.resolve_left (by omega)
            have : va = va' := by injection e1
            exact ⟨gs, os, by rw [this, q1], a2, q2, q3, HE9.out.own⟩
          subst hva
          obtain ⟨s0, sf⟩ := hsA 0 (by omega)
          have hle9 := HE9.out.le
          have HSA : Hid _ := hsA
          have HOW : Hid _ := hgsn
          have p1 : (0 : Int) < (ls.length : Int) := by omega
          have n1 : ¬ gs = w2.heap.size := by omega
          generalize ls[0] = t0 at *
          clear hsA hgsn
          go_wp2_with fail
          go_region_with
            (first | (go_at_call 23; refine (HN.out 2 _ (src_drew HS9.out) (by omega)).mono ?_; rintro e wA ⟨v, rfl, hvA, hsA, hgA⟩; obtain ⟨mA, rfl⟩ := Int.eq_ofNat_of_zero_le hvA.1; have hmA : (mA : Int) < 2 := hvA.2.1 (by omega); have hqA : Only (fun k => k = g) w9 wA := Only.trans (Only.of_below _ (bD (Below.refl _ _))) (Only.of_grown hgA rfl); obtain ⟨wB, hmk, hrow, hbB, hzB⟩ := make_bytes (P := Tryz.prog) 22 5 Draw.under Draw.info8 (64 + mA) (by omega) wA; have hcv := zeros_text wB wA.heap.size (64 + mA) hrow; have e1 : ((64 + mA : Nat) : Int) = 64 + (mA : Int) := (by omega); rw [e1] at hmk; have hwr : IntKind.i64.wrap (64 + (mA : Int)) = 64 + (mA : Int) := IntWalk.i64_in _ ⟨by omega, by omega⟩; have hqB : Only (fun k => k = g) w9 wB := Only.trans hqA (Only.of_below _ hbB); have hzA := hqA.size; have hzB2 := hqB.size; have j0 := (hqA.cell (a := ⟨w2.heap.size, 0, none⟩) (by simp only; omega) (by simp only; omega)).trans z0; have k0 := (hqB.cell (a := ⟨w2.heap.size, 0, none⟩) (by simp only; omega) (by simp only; omega)).trans z0; have k1 := (hqB.cell (a := ⟨w2.heap.size, 1, none⟩) (by simp only; omega) (by simp only; omega)).trans z1; have t0' := (hqB.cell (a := ⟨gs, os, none⟩) (by simp only; omega) (by simp only; omega)).trans s0; have tf' := (hqB.frozen (a := ⟨gs, os, none⟩) (by simp only; omega) (by simp only; omega)).trans sf; have HQB : Hid _ := hqB; have HSB : Hid (Draw.Src wB g a len cap zs) := src_below hsA hbB (src_lt hsA); clear hsA hgA hvA hrow hzB e1 hqA hqB hbB))
          all_goals
            have hzt : (⟨Array.replicate (64 + mA) 0⟩ : ByteArray).size ≤ 65 := by show (Array.replicate (64 + mA) (0 : UInt8)).size ≤ 65; simp; omega
            generalize (⟨Array.replicate (64 + mA) 0⟩ : ByteArray) = tz at *
            have hF : Only (fun k => k = g ∨ k = gs) w9 (wB.setCell ⟨gs, os, none⟩ (.string tz)) := (HQB.out.mono fun _ h => .inl h).trans (only_set1.mono fun _ h => .inr h)
            obtain ⟨q0, q1, qf⟩ := Box2.cells (hF.row HX9.out (by omega))
            obtain ⟨z0, z1, zf⟩ := Box2.cells (hF.row HZ9.out (by omega))
            have HOF : Hid _ := own_set0 (Own.only HOW.out HQB.out (fun k h1 h2 h3 => by omega)) (by omega) tz
            have HSF : Hid _ := src_only HSB.out (only_set1 (b := gs) (o := os) (v0 := .string tz)) (fun k h1 h2 => by omega)
            have HGF : Hid _ := only_W HG9.out hF (fun k h1 h2 h3 => by omega)
            have HLF : Hid (Little (ls.set 0 tz) lp) := ⟨by simp; exact HL.out.n, HL.out.m, fun t ht => by rcases List.mem_or_eq_of_mem_set ht with ht | rfl; exact HL.out.t t ht; exact hzt, HL.out.y⟩
            clear hF k0 k1 t0' tf' j0
            go_wp2_with fail
            exact bodyPost_ret (v := .agg #[.slice (some ⟨gs, os, none⟩) ls.length ca, .slice vb lp.length cb]) (by simp [results, Tryz.results25, go_sem, q0, q1]) rfl (fin_mk hgl only_set2 (Own.wide HOF.out (by omega) (by have := HE9.out.le; simp; omega)) HLF.out HSF.out HGF.out)
        · have hr1 := ((right_iff ls lp).1 HRB.out).1
          have hr3 := ((right_iff ls lp).1 HRB.out).2.2.1
          obtain ⟨gs, os, hva, hsA, hgs1, hgs2, hgpn⟩ : ∃ gs os, va = some ⟨gs, os, none⟩ ∧ StrsAt w9 gs os ls ∧ lo ≤ gs ∧ gs < hi ∧ ∀ k, (Value.slice vb lp.length cb).ownBlock = some k → k ≠ gs := by
            obtain ⟨va', cs, vb', cp, gs, os, gp, op, e1, e2, a1, a2, a3, a4, a5⟩ := HE9.out.own
            obtain ⟨q1, q2, q3⟩ := a1.resolve_left (by omega)
            have : va = va' := by injection e1
            refine ⟨gs, os, by rw [this, q1], a2, q2, q3, fun k hk e => ?_⟩
            by_cases hp0 : lp.length = 0
            · rw [HE9.out.full hp0] at hk; cases hk
            · obtain ⟨q4, _, _⟩ := a3.resolve_left hp0
              rw [e2, q4] at hk
              have : gp = k := by simpa [Value.ownBlock] using hk
              rcases a5 with a5 | a5 | a5 <;> omega
          subst hva
          have hle9 := HE9.out.le
          have HP0 : Hid (StP W g w2.heap.size gs os ca (fun x => Draw.Src x g a len cap zs) ls lp w9) := ⟨HS9.out, HG9.out, by omega, HX9.out, hsA, by omega, vb, cb, HZ9.out, OwnP.same HE9.out.ownp (fun _ _ => rfl) (by omega), fun k hk => ⟨by have := HE9.out.lt k hk; have := (HE9.out.ownp.lt k hk).1; omega, hgpn k hk⟩⟩
          have HYS : Hid (∀ y ∈ lp, y.2.size ≤ 64 ∧ 0 ≤ y.1 ∧ y.1 ≤ 64) := HL.out.y
          clear hsA hgpn z0 z1 zf q0 q1 qf HS9 HG9 HX9 HZ9 HE9
          go_wp2_with fail
          go_loopg [43] 300 (fun n _ wr => ∃ lp', n + lp'.length = 300 + lp.length ∧ lp'.length ≤ 201 ∧ (∀ y ∈ lp', y.2.size ≤ 64 ∧ 0 ≤ y.1 ∧ y.1 ≤ 64) ∧ StP W g w2.heap.size gs os ca (fun x => Draw.Src x g a len cap zs) ls lp' wr)
          case atStart => exact ⟨lp, by omega, by omega, HYS.out, HP0.out⟩
          case round =>
            clear HP0 HYS
            obtain ⟨lp', hn, hl1, hys, hs, hg, hsz, hx, hst, hgl3, vb', cb', hz, hop, hnb⟩ := hrel
            have HYS : Hid (∀ y ∈ lp', y.2.size ≤ 64 ∧ 0 ≤ y.1 ∧ y.1 ≤ 64) := hys
            have HSK : Hid _ := hs
            have HNB : Hid (∀ k, (Value.slice vb' lp'.length cb').ownBlock = some k → k ≠ w2.heap.size ∧ k ≠ gs) := hnb
            have HOP : Hid _ := hop
            obtain ⟨z0, z1, zf⟩ := hz.cells
            have H7 : Hid (∀ wA, Only (fun k => k = g) wr wA → Only (fun k => k = g) W wA ∧ Box2 wA W.heap.size (.slice none 0 0) (.slice none 0 0) ∧ StrsAt wA gs os ls ∧ Box2 wA w2.heap.size (.slice (some ⟨gs, os, none⟩) ls.length ca) (.slice vb' lp'.length cb') ∧ OwnP wA (W.heap.size + 1) (.slice vb' lp'.length cb') lp') := fun wA h => ⟨only_W hg h (fun k h1 h2 h3 => by omega), h.row hx (by omega), hst.only h (.inr (by omega)), h.row hz (by omega), hop.same (fun k hk => h.block k (hop.lt k hk).2 (by have := (hop.lt k hk).1; omega)) (Nat.le_refl _)⟩
            clear hs hg hx hst hz hop hnb hys
            go_wp2_with fail
            go_region_with (first | (go_at_call 23; refine (HN.out 3 _ (src_drew HSK.out) (by omega)).mono ?_; rintro e wA ⟨v, rfl, hvA, hsA, hgA⟩; obtain ⟨mA, rfl⟩ := Int.eq_ofNat_of_zero_le hvA.1; have hmA : (mA : Int) < 3 := hvA.2.1 (by omega); have hqA : Only (fun k => k = g) wr wA := Only.trans (Only.of_below _ (bD (Below.refl _ _))) (Only.of_grown hgA rfl); have hzA := hqA.size; have hwr : IntKind.i64.wrap (199 + (mA : Int)) = 199 + (mA : Int) := IntWalk.i64_in _ ⟨by omega, by omega⟩; have j1 := (hqA.cell (a := ⟨w2.heap.size, 1, none⟩) (by simp only; omega) (by simp only; omega)).trans z1; have HSA : Hid _ := hsA; have HQA : Hid _ := hqA; clear hsA hgA hvA hqA))
            all_goals
              obtain ⟨hg, hx, hst, hz, hop⟩ := H7.out wA HQA.out
              clear z0 z1 zf j1
              obtain ⟨z0, z1, zf⟩ := hz.cells
              obtain ⟨q0, q1, qf⟩ := hx.cells
              have HG : Hid _ := hg
              have HX : Hid _ := hx
              have HST : Hid _ := hst
              have HZ : Hid _ := hz
              have HOPA : Hid _ := hop
              clear hg hx hst hz hop
              by_cases hlt : (lp'.length : Int) < 199 + (mA : Int)
              · go_wp2_with (at_builtin; refine wp_ownO (by rfl) _ _ (by rfl) (W.heap.size + 1) wA.heap.size (.slice vb' lp'.length cb') lp' 0 ByteArray.empty (by rfl) (by rfl) (OwnP.below HOPA.out (bself _) (Nat.le_refl _)) (by simp; omega) (by simp) (by simp; rfl) (by omega) ?_; intro gp cp wB hoB hgB hlB hqB; simp at hgB; have hzB := hqB.size; simp at hzB; have hqC : Only (fun k => (Value.slice vb' lp'.length cb').ownBlock = some k) wA wB := Only.trans (Only.of_below _ (bself _)) hqB; obtain ⟨x0, x1, xf⟩ := Box2.cells (hqC.row HZ.out (fun e => (HNB.out _ e).1 rfl)); have HOB : Hid _ := hoB; have HGB : Hid _ := hgB; have HQC : Hid _ := hqC; clear hoB hqB hgB hqC)
                have hAll : Only (fun k => (Value.slice vb' lp'.length cb').ownBlock = some k ∨ k = w2.heap.size) wA (wB.setCell ⟨w2.heap.size, 1, none⟩ (.slice (some ⟨gp, 0, none⟩) (lp'.length + 1) cp)) := (HQC.out.mono fun _ h => .inl h).trans (only_set1.mono fun _ h => .inr h)
                have hob : ∀ k, (Value.slice vb' lp'.length cb').ownBlock = some k → W.heap.size < k := fun k hk => (HOPA.out.lt k hk).1
                have hgpn : gp ≠ w2.heap.size ∧ gp ≠ gs := by
                  rcases HGB.out with h | h
                  · exact HNB.out _ (show (Value.slice vb' lp'.length cb').ownBlock = some gp by simpa [Value.ownBlock] using h)
                  · omega
                go_roundg (gk - 1)
                case measure => omega
                case rel =>
                  refine ⟨lp' ++ [(0, ByteArray.empty)], by simp; omega, by simp; omega, fun y hy => ?_, src_only HSA.out hAll (fun k h1 h2 => by rcases h2 with h2 | h2; exact absurd h1 (by have := hob _ h2; omega); omega), only_W HG.out hAll (fun k h1 h2 h3 => by rcases h3 with h3 | h3; exact absurd h1 (by have := hob _ h3; omega); omega), by simp; omega, hAll.row HX.out (by rintro (h | h); exact absurd (hob _ h) (by omega); omega), StrsAt.only HST.out hAll (.inr (by rintro (h | h); exact (HNB.out _ h).2 rfl; omega)), by simp; omega, some ⟨gp, 0, none⟩, cp, ?_, ?_, ?_⟩
                  · rcases List.mem_append.1 hy with hy | hy
                    · exact HYS.out y hy
                    · obtain rfl : y = (0, ByteArray.empty) := by simpa using hy
                      exact ⟨by simp, by simp, by simp⟩
                  · rw [List.length_append]
                    exact row_set (HQC.out.row HZ.out (fun e => (HNB.out _ e).1 rfl)) 1 _
                  · rw [List.length_append]
                    exact OwnP.setCell HOB.out (by simp [Value.ownBlock]; omega) _
                  · intro k hk
                    have : gp = k := by simpa [Value.ownBlock] using hk
                    omega
              · go_wp2_with fail
                exact bodyPost_ret (v := .agg #[.slice (some ⟨gs, os, none⟩) ls.length ca, .slice vb' lp'.length cb']) (by simp [results, Tryz.results25, go_sem, q0, q1]) rfl (fin_mk hgl only_set2 (Own.wide (StP.own HST.out (by omega) (by omega) HOPA.out HNB.out) (Nat.le_refl _) (by simp)) ⟨HL.out.n, hl1, HL.out.t, HYS.out⟩ HSA.out HG.out)
end Go.Proofs.YtkigmpeanllimaaGreatDoor.Disk
