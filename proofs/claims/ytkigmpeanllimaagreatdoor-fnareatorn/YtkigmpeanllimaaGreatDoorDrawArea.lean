/- A drawn area: what the model's l04Disk answers. -/
import Derived.Test.YtkigmpeanllimaaGreatDoorDrawDisk
import Derived.Test.YtkigmpeanllimaaGreatDoorTextsF
import Derived.Test.YtkigmpeanllimaaGreatDoorTextsC
import Derived.Test.YtkigmpeanllimaaGreatDoorSpecPut
import Derived.Test.YtkigmpeanllimaaGreatDoorSpecFormat
import Derived.Test.YtkigmpeanllimaaGreatDoorSpecCrash
import Derived.Test.YtkigmpeanllimaaGreatDoorTextsE
namespace Go.Proofs.YtkigmpeanllimaaGreatDoor.Disk
open Go.RowKit Go.Proofs.YtkigmpeanllimaaGreatDoor.Mem Go.Proofs.YtkigmpeanllimaaGreatDoor.Harn Go.Proofs.YtkigmpeanllimaaGreatDoor.DiskP Go.Proofs.YtkigmpeanllimaaGreatDoor.Draw

theorem fldA (a b : Value) (t : ByteArray) (g c : Int) (w : World) : (Instr.field 31 (.agg #[a, b, .string t, .int .i64 g, .int .i64 c]) 0).run Tryz.prog w = .ok (.agg #[a, b]) w := by kernel_rfl
theorem new_right {n : Int} (h1 : 1 ≤ n) (h2 : n ≤ 64) : rightB (newD n) [] = true ∧ (newD n).length = n.toNat := by
  rw [newD_yes h1 h2]
  refine ⟨(right_iff _ _).2 ⟨by simp; omega, by simp; omega, by simp, fun t ht => by rw [List.eq_of_mem_replicate ht]; simp, by simp⟩, by simp⟩
theorem format_right {ls : List ByteArray} (hr : rightB ls [] = true) (h3 : 3 ≤ ls.length) : (formatO ls []).c = 0 ∧ rightB (formatO ls []).ls (formatO ls []).lp = true ∧ (formatO ls []).ls.length = ls.length := by
  have hz := headB_size 0 0 0
  have e : formatO ls [] = runO ls [] [(false, 0, headB 0 0 0), (true, 0, ByteArray.empty)] := formatO_ok hr (by omega)
  have hw : writeO ls [] 0 (headB 0 0 0) = ⟨ls, [] ++ [(0, headB 0 0 0)], ByteArray.empty, 0⟩ := writeO_ok (by omega) hr ⟨by omega, by omega⟩ (by simp)
  have hr2 : rightB ls ([] ++ [(0, headB 0 0 0)]) = true := by have h := (writeO_wrote ls [] 0 (headB 0 0 0)).r; rw [hw] at h; exact h rfl
  have hf : flushO ls ([] ++ [(0, headB 0 0 0)]) = ⟨flushD ls ([] ++ [(0, headB 0 0 0)]), [], ByteArray.empty, 0⟩ := flushO_ok hr2
  have hc : (runO ls [] [(false, 0, headB 0 0 0), (true, 0, ByteArray.empty)]).c = 0 := by
    have e1 : runO ls [] [(false, 0, headB 0 0 0), (true, 0, ByteArray.empty)] = runO (writeO ls [] 0 (headB 0 0 0)).ls (writeO ls [] 0 (headB 0 0 0)).lp [(true, 0, ByteArray.empty)] := if_pos (by rw [show stepO ls [] (false, 0, headB 0 0 0) = writeO ls [] 0 (headB 0 0 0) from rfl, hw])
    rw [e1, hw]
    have e2 : runO ls ([] ++ [(0, headB 0 0 0)]) [(true, 0, ByteArray.empty)] = ⟨(flushO ls ([] ++ [(0, headB 0 0 0)])).ls, (flushO ls ([] ++ [(0, headB 0 0 0)])).lp, ByteArray.empty, 0, 0⟩ := if_pos (by rw [show stepO ls ([] ++ [(0, headB 0 0 0)]) (true, 0, ByteArray.empty) = flushO ls ([] ++ [(0, headB 0 0 0)]) from rfl, hf])
    exact congrArg AOut.c e2
  rw [e]
  exact ⟨hc, runO_right _ ls [] hr hc⟩
theorem put_right {ls : List ByteArray} {lp : List (Int × ByteArray)} {s : ByteArray} {x : Int} (hr : rightB ls lp = true) (h : (putAO ls lp s x).c = 0) : rightB (putAO ls lp s x).ls (putAO ls lp s x).lp = true ∧ (putAO ls lp s x).ls.length = ls.length := by
  unfold putAO at h ⊢
  split
  · rename_i h1; rw [if_pos h1] at h; exact absurd h (by decide)
  · rename_i h1
    rw [if_neg h1] at h
    split
    · rename_i h2
      rw [if_pos h2] at h
      split
      · rename_i h3; rw [if_pos h3] at h; exact absurd h (by decide)
      · rename_i h3
        rw [if_neg h3] at h
        exact runO_right _ ls lp hr h
    · rename_i h2; rw [if_neg h2] at h; exact absurd h h2
theorem crash_right {ls : List ByteArray} {lp : List (Int × ByteArray)} {kp : List Int} (hr : rightB ls lp = true) (hk : ¬ 400 < kp.length) : rightB (crashO ls lp kp).1 (crashO ls lp kp).2 = true ∧ (crashO ls lp kp).1.length = ls.length := by
  rw [crashO_ok hk hr]
  exact ⟨flush_right hr (kept_sub lp kp), length_flushD _ _⟩

/-- What the drawing of an area keeps. -/
structure L4 (W wr : World) (g gd : Nat) (S : World → Prop) (va : Option Addr) (ca : Nat) (vb : Option Addr) (cb : Nat) (ls : List ByteArray) (lp : List (Int × ByteArray)) (lo hi : Nat) : Prop where
  og : Only (fun b => b = g) W wr
  src : S wr
  x : Box2 wr gd (.slice va ls.length ca) (.slice vb lp.length cb)
  r : Box2 wr W.heap.size (.slice none 0 0) (.slice none 0 0)
  o : Own wr lo hi (.slice va ls.length ca) (.slice vb lp.length cb) ls lp
  h1 : W.heap.size + 1 ≤ lo
  h2 : hi ≤ wr.heap.size
  h3 : gd < lo ∨ hi ≤ gd
  h4 : W.heap.size < gd
  h5 : gd < wr.heap.size
  rt : rightB ls lp = true
  l3 : 3 ≤ ls.length
  l14 : ls.length ≤ 14

theorem L4.only {W wr V : World} {g gd : Nat} {S : World → Prop} {va : Option Addr} {ca : Nat} {vb : Option Addr} {cb : Nat} {ls : List ByteArray} {lp : List (Int × ByteArray)} {lo hi : Nat} (h : L4 W wr g gd S va ca vb cb ls lp lo hi) (hq : Only (fun b => b = g) wr V) (hs : S V) (hg : g < W.heap.size) : L4 W V g gd S va ca vb cb ls lp lo hi := by
  have h4 := h.h4
  have h5 := h.h5
  have h1 := h.h1
  have h2 := h.h2
  have hz := hq.size
  exact ⟨h.og.trans hq, hs, hq.row h.x (by omega), hq.row h.r (by omega), h.o.only hq (fun k a1 a2 a3 => by omega), h1, by omega, h.h3, h4, by omega, h.rt, h.l3, h.l14⟩
theorem L4.far {W V V' : World} {g gd gy : Nat} {S : World → Prop} {va : Option Addr} {ca : Nat} {vb : Option Addr} {cb : Nat} {ls : List ByteArray} {lp : List (Int × ByteArray)} {lo hi : Nat} (h : L4 W V g gd S va ca vb cb ls lp lo hi) (ho : Only (fun k => k = gy) V V') (hs : S V') (h1 : W.heap.size < gy) (h2 : gd ≠ gy) (h3 : gy < lo ∨ hi ≤ gy) : L4 W V' g gd S va ca vb cb ls lp lo hi := by
  have h4 := h.h4
  have h5 := h.h5
  have q1 := h.h1
  have q2 := h.h2
  have hz := ho.size
  exact ⟨only_W h.og ho (fun k a1 a2 a3 => by omega), hs, ho.row h.x (by omega), ho.row h.r (by omega), h.o.only ho (fun k a1 a2 a3 => by omega), q1, by omega, h.h3, h4, by omega, h.rt, h.l3, h.l14⟩
theorem own_row {W : World} {lo hi : Nat} {va : Option Addr} {ca : Nat} {up : Value} {ls : List ByteArray} {lp : List (Int × ByteArray)} (h : Own W lo hi (.slice va ls.length ca) up ls lp) (h0 : 0 < ls.length) : ∃ gs os, va = some ⟨gs, os, none⟩ ∧ lo ≤ gs ∧ gs < hi ∧ StrsAt W gs os ls := by
  obtain ⟨va', cs, vb, cp, gs', os', gp, op, e1, e2, a1, a2, _⟩ := h
  obtain ⟨q1, q2, q3⟩ := a1.resolve_left (by omega)
  injection e1 with e1 _ _
  exact ⟨gs', os', e1.trans q1, q2, q3, a2⟩
theorem own_setJ {W : World} {lo hi gs os ca : Nat} {up : Value} {ls : List ByteArray} {lp : List (Int × ByteArray)} (h : Own W lo hi (.slice (some ⟨gs, os, none⟩) ls.length ca) up ls lp) (j : Nat) (h0 : j < ls.length) (t : ByteArray) : Own (W.setCell ⟨gs, os + j, none⟩ (.string t)) lo hi (.slice (some ⟨gs, os, none⟩) ls.length ca) up (ls.set j t) lp := by
  obtain ⟨va, cs, vb, cp, gs', os', gp, op, e1, e2, a1, a2, a3, a4, a5⟩ := h
  obtain ⟨q1, q2, q3⟩ := a1.resolve_left (by omega)
  injection e1 with e1 _ e3
  rw [q1] at e1
  injection e1 with e1
  injection e1 with e4 e5 _
  subst e4 e5 e3
  refine ⟨some ⟨gs, os, none⟩, ca, vb, cp, gs, os, gp, op, by simp, e2, .inr ⟨rfl, q2, q3⟩, a2.set (i := j) h0 t, a3, ?_, ?_⟩
  · by_cases hp : lp.length = 0
    · exact fun j hj => absurd hj (by omega)
    · exact PendsAt.other a4 (by rcases a5 with a5 | a5 | a5; exact a5; omega; omega) _
  · rw [List.length_set]
    exact a5
theorem little_set {ls : List ByteArray} {lp : List (Int × ByteArray)} (h : Little ls lp) (j : Nat) (t : ByteArray) (ht : t.size ≤ 65) : Little (ls.set j t) lp := by
  refine ⟨by rw [List.length_set]; exact h.n, h.m, fun u hu => ?_, h.y⟩
  rcases List.mem_or_eq_of_mem_set hu with hu | rfl
  · exact h.t u hu
  · exact ht
/-- The same of whatever little disk. -/
structure F4 (W wr : World) (g gd : Nat) (S : World → Prop) (va : Option Addr) (ca : Nat) (vb : Option Addr) (cb : Nat) (ls : List ByteArray) (lp : List (Int × ByteArray)) (lo hi : Nat) : Prop where
  og : Only (fun b => b = g) W wr
  src : S wr
  x : Box2 wr gd (.slice va ls.length ca) (.slice vb lp.length cb)
  r : Box2 wr W.heap.size (.slice none 0 0) (.slice none 0 0)
  o : Own wr lo hi (.slice va ls.length ca) (.slice vb lp.length cb) ls lp
  h1 : W.heap.size + 1 ≤ lo
  h2 : hi ≤ wr.heap.size
  h3 : gd < lo ∨ hi ≤ gd
  h4 : W.heap.size < gd
  h5 : gd < wr.heap.size
  lt : Little ls lp
theorem L4.little {W wr : World} {g gd : Nat} {S : World → Prop} {va : Option Addr} {ca : Nat} {vb : Option Addr} {cb : Nat} {ls : List ByteArray} {lp : List (Int × ByteArray)} {lo hi : Nat} (h : L4 W wr g gd S va ca vb cb ls lp lo hi) : F4 W wr g gd S va ca vb cb ls lp lo hi := ⟨h.og, h.src, h.x, h.r, h.o, h.h1, h.h2, h.h3, h.h4, h.h5, right_little h.rt⟩
theorem F4.only {W wr V : World} {g gd : Nat} {S : World → Prop} {va : Option Addr} {ca : Nat} {vb : Option Addr} {cb : Nat} {ls : List ByteArray} {lp : List (Int × ByteArray)} {lo hi : Nat} (h : F4 W wr g gd S va ca vb cb ls lp lo hi) (hq : Only (fun b => b = g) wr V) (hs : S V) (hg : g < W.heap.size) : F4 W V g gd S va ca vb cb ls lp lo hi := by
  have h4 := h.h4
  have h5 := h.h5
  have h1 := h.h1
  have h2 := h.h2
  have hz := hq.size
  exact ⟨h.og.trans hq, hs, hq.row h.x (by omega), hq.row h.r (by omega), h.o.only hq (fun k a1 a2 a3 => by omega), h1, by omega, h.h3, h4, by omega, h.lt⟩
/-- A sector of it is turned. -/
theorem F4.turn {W V : World} {g gd gs os : Nat} {a : Option Addr} {len cap : Nat} {zs : List Int} {ca : Nat} {vb : Option Addr} {cb : Nat} {ls : List ByteArray} {lp : List (Int × ByteArray)} {lo hi : Nat} (h : F4 W V g gd (fun x => Draw.Src x g a len cap zs) (some ⟨gs, os, none⟩) ca vb cb ls lp lo hi) (j : Nat) (hj : j < ls.length) (t : ByteArray) (ht : t.size ≤ 65) (h1 : lo ≤ gs) (h2 : gs < hi) (hg : g < W.heap.size) :
    F4 W (V.setCell ⟨gs, os + j, none⟩ (.string t)) g gd (fun x => Draw.Src x g a len cap zs) (some ⟨gs, os, none⟩) ca vb cb (ls.set j t) lp lo hi := by
  have h4 := h.h4
  have h5 := h.h5
  have q1 := h.h1
  have q2 := h.h2
  have q3 := h.h3
  have o1 := onlyA_set1 V gs (os + j) (.string t)
  have hx := Only.row o1 h.x (by omega)
  have ho := own_setJ h.o j hj t
  have hle : ls.length = (ls.set j t).length := by rw [List.length_set]
  rw [hle] at hx ho
  exact ⟨only_W h.og o1 (fun k a1 a2 a3 => by omega), src_only h.src o1 (fun k hk e => by omega), hx, Only.row o1 h.r (by omega), ho, q1, by simp; omega, q3, h4, by simp; omega, little_set h.lt j t ht⟩
/-- Another disk comes into the box. -/
theorem L4.put {W V : World} {g gd : Nat} {S : World → Prop} {va va5 : Option Addr} {ca ca5 : Nat} {vb vb5 : Option Addr} {cb cb5 : Nat} {ls ol : List ByteArray} {lp op : List (Int × ByteArray)} {lo hi lo5 hi5 : Nat} (h : L4 W V g gd S va ca vb cb ls lp lo hi) (ho : Own V lo5 hi5 (.slice va5 ol.length ca5) (.slice vb5 op.length cb5) ol op) (hr : rightB ol op = true ∧ ol.length = ls.length) (hs : S ((V.setCell ⟨gd, 0, none⟩ (.slice va5 ol.length ca5)).setCell ⟨gd, 1, none⟩ (.slice vb5 op.length cb5))) (h1 : W.heap.size + 1 ≤ lo5) (h2 : hi5 ≤ V.heap.size) (h3 : gd < lo5 ∨ hi5 ≤ gd) :
    L4 W ((V.setCell ⟨gd, 0, none⟩ (.slice va5 ol.length ca5)).setCell ⟨gd, 1, none⟩ (.slice vb5 op.length cb5)) g gd S va5 ca5 vb5 cb5 ol op lo5 hi5 := by
  have h4 := h.h4
  have h5 := h.h5
  have l3 := h.l3
  have l14 := h.l14
  have hl := hr.2
  exact ⟨only_W h.og onlyA_set2 (fun k a1 a2 a3 => by omega), hs, box2_set h.x, Only.row onlyA_set2 h.r (by omega), ho.only onlyA_set2 (fun k a1 a2 a3 => by omega), h1, by simp; omega, h3, h4, by simp; omega, hr.1, by omega, by omega⟩
/-- What a put told lies in a box. -/
def RelP (wr : World) (g : Nat) (S : World → Prop) (ls : List ByteArray) (y : Value) (wc : World) : Prop := ∃ gy va ca vb cb ol op ot og oc lo hi, y = .pointer (some ⟨gy, 0, none⟩) ∧ BoxA wc gy (.slice va (List.length (α := ByteArray) ol) ca) (.slice vb (List.length (α := Int × ByteArray) op) cb) ot og oc ∧ Own wc lo hi (.slice va ol.length ca) (.slice vb op.length cb) ol op ∧ (oc = 0 → rightB ol op = true ∧ ol.length = ls.length) ∧ Only (fun b => b = g) wr wc ∧ S wc ∧ wr.heap.size ≤ gy ∧ wr.heap.size ≤ lo ∧ hi ≤ wc.heap.size ∧ gy < wc.heap.size ∧ (gy < lo ∨ hi ≤ gy)
theorem relP_new {wr u3 : World} {g L : Nat} {ls : List ByteArray} {va vb : Option Addr} {ca cb : Nat} {ol : List ByteArray} {op : List (Int × ByteArray)} {ot : ByteArray} {og oc : Int} {a : Option Addr} {len cap : Nat} {zs : List Int} (ho : Own u3 L u3.heap.size (.slice va ol.length ca) (.slice vb op.length cb) ol op) (hr : oc = 0 → rightB ol op = true ∧ ol.length = ls.length) (hq : Only (fun b => b = g) wr u3) (hs : Draw.Src u3 g a len cap zs) (hL : wr.heap.size ≤ L) :
    RelP wr g (fun x => Draw.Src x g a len cap zs) ls (.pointer (some ⟨u3.heap.size, 0, none⟩)) (u3.alloc (.cells #[.slice va ol.length ca, .slice vb op.length cb, .string ot, .int .i64 og, .int .i64 oc] 31)) :=
  ⟨_, va, ca, vb, cb, ol, op, ot, og, oc, L, u3.heap.size, rfl, boxA_at u3 _ _ _ _ _, ho.below (bself _), hr, hq.trans (Only.of_below _ (bself _)), src_below hs (bself _) (src_lt hs), hq.size, hL, by simp, by simp, .inr (Nat.le_refl _)⟩
theorem relP_set {wr u3 : World} {g gy L : Nat} {ls : List ByteArray} {va vb : Option Addr} {ca cb : Nat} {ol : List ByteArray} {op : List (Int × ByteArray)} {ot : ByteArray} {og oc : Int} {a : Option Addr} {len cap : Nat} {zs : List Int} (ho : Own u3 L u3.heap.size (.slice va ol.length ca) (.slice vb op.length cb) ol op) (hr : oc = 0 → rightB ol op = true ∧ ol.length = ls.length) (hq : Only (fun b => b = g) wr u3) (hs : Draw.Src u3 g a len cap zs) (hz : BoxA u3 gy (.slice none 0 0) (.slice none 0 0) ByteArray.empty 0 0) (hL : wr.heap.size ≤ L) (hy : gy < L) (h1 : wr.heap.size ≤ gy) (h2 : gy < u3.heap.size) (h6 : g < wr.heap.size) :
    RelP wr g (fun x => Draw.Src x g a len cap zs) ls (.pointer (some ⟨gy, 0, none⟩)) (((((u3.setCell ⟨gy, 0, none⟩ (.slice va ol.length ca)).setCell ⟨gy, 1, none⟩ (.slice vb op.length cb)).setCell ⟨gy, 2, none⟩ (.string ot)).setCell ⟨gy, 3, none⟩ (.int .i64 og)).setCell ⟨gy, 4, none⟩ (.int .i64 oc)) :=
  ⟨gy, va, ca, vb, cb, ol, op, ot, og, oc, L, u3.heap.size, rfl, row_set (row_set (row_set (row_set (row_set hz 0 _) 1 _) 2 _) 3 _) 4 _, ho.only onlyA_set5 (fun k h3 h4 e => by omega), hr, only_W hq onlyA_set5 (fun k hk hn e => by omega), src_only hs onlyA_set5 (fun k hk e => by omega), h1, hL, by simp, by simp; omega, .inl hy⟩
theorem boxP_far {V : World} {b k : Nat} {vs vp v0 v1 v2 v3 v4 : Value} (h : V.cell? ⟨k, 0, none⟩ = some vs ∧ V.cell? ⟨k, 1, none⟩ = some vp) (hb : b ≠ k) (hk : k < V.heap.size) : (((((V.setCell ⟨b, 0, none⟩ v0).setCell ⟨b, 1, none⟩ v1).setCell ⟨b, 2, none⟩ v2).setCell ⟨b, 3, none⟩ v3).setCell ⟨b, 4, none⟩ v4).cell? ⟨k, 0, none⟩ = some vs ∧ (((((V.setCell ⟨b, 0, none⟩ v0).setCell ⟨b, 1, none⟩ v1).setCell ⟨b, 2, none⟩ v2).setCell ⟨b, 3, none⟩ v3).setCell ⟨b, 4, none⟩ v4).cell? ⟨k, 1, none⟩ = some vp :=
  ⟨(onlyA_set5.cell (a := ⟨k, 0, none⟩) hk (fun e => hb e.symm)).trans h.1, (onlyA_set5.cell (a := ⟨k, 1, none⟩) hk (fun e => hb e.symm)).trans h.2⟩

set_option maxRecDepth 100000 in
set_option maxHeartbeats 8000000 in
theorem l04Disk_any (W : World) (g : Nat) (a : Option Addr) (len cap : Nat) (zs : List Int) (h : Draw.Src W g a len cap zs) (hd3 : ∀ V, Draw.Src V g a len cap zs → Calls Tryz.prog 25 #[.pointer (some ⟨g, 0, none⟩)] V fun e W' => DiskDrawn V g (fun x => Draw.Src x g a len cap zs) e W') :
    Calls Tryz.prog 21 #[.pointer (some ⟨g, 0, none⟩)] W fun e W' => DiskDrawn W g (fun x => Draw.Src x g a len cap zs) e W' := by
  have HN : Hid (∀ (m : Int) W, Draw.Src W g a len cap zs → m ≤ 100 → Calls Tryz.prog 23 #[.pointer (some ⟨g, 0, none⟩), .int .i64 m] W fun e W' => ∃ v : Int, e = .returned (.int .i64 v) ∧ Num m v ∧ Draw.Src W' g a len cap zs ∧ W.grownBy W' (some g)) := fun m W h hm => n_any W g a len cap zs m h (by omega)
  have HO : Hid (∀ (m : Int) W, Draw.Src W g a len cap zs → m ≤ 100 → Calls Tryz.prog 24 #[.pointer (some ⟨g, 0, none⟩), .int .i64 m] W fun e W' => ∃ b : Bool, e = .returned (.bool b) ∧ Draw.Src W' g a len cap zs ∧ W.grownBy W' (some g)) := fun m W h hm => one_any W g a len cap zs m h (by omega)
  have hgl := src_lt h
  have HS : Hid (Draw.Src W g a len cap zs) := h
  have H3 : Hid (∀ V, Draw.Src V g a len cap zs → Calls Tryz.prog 25 #[.pointer (some ⟨g, 0, none⟩)] V fun e W' => DiskDrawn V g (fun x => Draw.Src x g a len cap zs) e W') := hd3
  have hfa := fldA
  obtain ⟨W0, hW0⟩ : ∃ W0, W0 = W.alloc (.cells #[.slice none 0 0, .slice none 0 0] 26) := ⟨_, rfl⟩
  have HS0 : Hid (Draw.Src W0 g a len cap zs) := by rw [hW0]; exact src_below HS.out (bself _) hgl
  have HR0 : Hid (Box2 W0 W.heap.size (.slice none 0 0) (.slice none 0 0)) := by rw [hW0]; exact Sha.row_new W [.slice none 0 0, .slice none 0 0] 26
  have HQ0 : Hid (Only (fun b => b = g) W W0) := by rw [hW0]; exact Only.of_below _ (bself _)
  have hz0 : W0.heap.size = W.heap.size + 1 := by rw [hW0]; simp
  clear h hd3
  go_enter Tryz.func21, Tryz.ntmps21
  go_wp2_with fail
  rw [← hW0]
  clear hW0
  refine (HN.out 12 _ HS0.out (by omega)).mono ?_
  rintro e w1 ⟨v, rfl, hv, hs1, hg1⟩
  obtain ⟨m, rfl⟩ := Int.eq_ofNat_of_zero_le hv.1
  have hm : (m : Int) < 12 := hv.2.1 (by omega)
  have HS1 : Hid _ := hs1
  have hq1 : Only (fun b => b = g) W0 w1 := Only.of_grown hg1 rfl
  have HQ1 : Hid (Only (fun b => b = g) W w1) := HQ0.out.trans hq1
  have HR1 : Hid (Box2 w1 W.heap.size (.slice none 0 0) (.slice none 0 0)) := hq1.row HR0.out (by omega)
  have hz1 := hq1.size
  clear hv hs1 hg1 hq1 HS0 HR0 HQ0
  go_wp2_with fail
  refine (specNew_any (3 + (m : Int)) _).mono ?_
  rintro e w2 ⟨us, up, rfl, ho2, hb2⟩
  obtain ⟨nr, nl⟩ := new_right (n := 3 + (m : Int)) (by omega) (by omega)
  obtain ⟨fc, fr, fl⟩ := format_right nr (by rw [nl]; omega)
  have KF : Hid (Calls Tryz.prog 14 #[.agg #[us, up]] w2 fun e w' => ToldA w2 (formatO (newD (3 + (m : Int))) []) e w') := specFormat_any _ _ _ _ w2 ho2.strs ho2.pends (fits_right nr)
  generalize formatO (newD (3 + (m : Int))) [] = F at *
  have hfl : F.ls.length = 3 + m := by rw [fl, nl]; omega
  obtain ⟨fls, flp, ft, fg, fcc⟩ := F
  dsimp only at fr hfl
  have hfl3 : 3 ≤ fls.length := by omega
  have hfl14 : fls.length ≤ 14 := by omega
  clear fc fl nl nr hfl
  have HS2 : Hid (Draw.Src w2 g a len cap zs) := src_below HS1.out hb2 (src_lt HS1.out)
  have HQ2 : Hid (Only (fun b => b = g) W w2) := HQ1.out.trans (Only.of_below _ hb2)
  have HR2 : Hid (Box2 w2 W.heap.size (.slice none 0 0) (.slice none 0 0)) := Box2.below HR1.out hb2 (by omega)
  have hz2 := hb2.size
  clear ho2 hb2 HS1 HQ1 HR1
  go_wp2_with fail
  refine KF.out.mono ?_
  rintro e w3 ⟨us3, up3, rfl, ho3, hb3⟩
  dsimp only at ho3
  obtain ⟨va, ca, vb, cb, rfl, rfl⟩ := ho3.shape
  have hz3 := hb3.size
  have HL : Hid (L4 W (w3.alloc (.cells #[.slice va fls.length ca, .slice vb flp.length cb] 26)) g w3.heap.size (fun x => Draw.Src x g a len cap zs) va ca vb cb fls flp w2.heap.size w3.heap.size) := ⟨(HQ2.out.trans (Only.of_below _ hb3)).trans (Only.of_below _ (bself _)), src_below (src_below HS2.out hb3 (src_lt HS2.out)) (bself _) (by omega), box2_at w3 _ _, Sha.row_alloc (Box2.below HR2.out hb3 (by omega)) _, ho3.below (bself _), by omega, by simp, .inr (Nat.le_refl _), by omega, by simp, fr, by omega, by omega⟩
  obtain ⟨W4, hW4⟩ : ∃ W4, W4 = w3.alloc (.cells #[.slice va fls.length ca, .slice vb flp.length cb] 26) := ⟨_, rfl⟩
  rw [← hW4] at HL
  clear ho3 hb3 HS2 HQ2 HR2 KF
  go_wp2_with fail
  rw [← hW4]
  clear hW4
  refine (HN.out 5 _ HL.out.src (by omega)).mono ?_
  rintro e w5 ⟨v, rfl, hv, hs5, hg5⟩
  obtain ⟨k0, rfl⟩ := Int.eq_ofNat_of_zero_le hv.1
  have hk0 : (k0 : Int) < 5 := hv.2.1 (by omega)
  have hq5 := Only.of_grown (p := fun b => b = g) hg5 rfl
  have hz5 := hq5.size
  have g4 := HL.out.h4
  have g5 := HL.out.h5
  have g1 := HL.out.h1
  have g2 := HL.out.h2
  have HL5 : Hid (L4 W w5 g w3.heap.size (fun x => Draw.Src x g a len cap zs) va ca vb cb fls flp w2.heap.size w3.heap.size) := ⟨HL.out.og.trans hq5, hs5, hq5.row HL.out.x (by omega), hq5.row HL.out.r (by omega), HL.out.o.only hq5 (fun k h1 h2 h3 => by omega), HL.out.h1, by omega, HL.out.h3, g4, by omega, HL.out.rt, HL.out.l3, HL.out.l14⟩
  clear hv hs5 hg5 hq5 HL g1 g2 g4 g5
  go_wp2_with fail
  generalize w3.heap.size = gd at *
  generalize w2.heap.size = lo0 at *
  go_loopw [4] (fun i wr => ∃ k : Nat, i = .int .i64 k ∧ k ≤ 5 ∧ ∃ va ca vb cb ls lp lo hi, L4 W wr g gd (fun x => Draw.Src x g a len cap zs) va ca vb cb ls lp lo hi) (fun i _ => (intOf i).toNat)
  case atStart => exact ⟨k0, rfl, by omega, _, _, _, _, _, _, _, _, HL5.out⟩
  case round =>
    obtain ⟨k, rfl, hk, va4, ca4, vb4, cb4, ls, lp, lo, hi, hl⟩ := hrel
    clear HL5
    have HL : Hid _ := hl
    have HRT : Hid (rightB ls lp = true) := hl.rt
    have HFT : Hid (Fits ls lp) := fits_right hl.rt
    have g1 := hl.h1
    have g2 := hl.h2
    have g3 := hl.h3
    have g4 := hl.h4
    have g5 := hl.h5
    clear hl
    by_cases hk1 : 0 < k
    · have hk1i : (0 : Int) < (k : Int) := by omega
      have HSC : Hid (Draw.Src wr g a len cap zs) := HL.out.src
      have NQ : Hid (Only (fun b => b = g) wr wr) := Only.refl _ _
      have KC : Hid (∀ V, Only (fun b => b = g) wr V → V.cell? ⟨gd, 0, none⟩ = some (.slice va4 ls.length ca4) ∧ V.cell? ⟨gd, 1, none⟩ = some (.slice vb4 lp.length cb4)) := fun V hV => ⟨(Box2.cells (hV.row HL.out.x (by omega))).1, (Box2.cells (hV.row HL.out.x (by omega))).2.1⟩
      have KO : Hid (∀ V, Only (fun b => b = g) wr V → Own V lo hi (.slice va4 ls.length ca4) (.slice vb4 lp.length cb4) ls lp) := fun V hV => HL.out.o.only hV (fun k h1 h2 h3 => by omega)
      have kQ := KC.out _ NQ.out
      go_wp2_with fail
      go_cut [5] (fun y wc => RelP wr g (fun x => Draw.Src x g a len cap zs) ls y wc)
      case first =>
        go_region_held3 (fun V => V.cell? ⟨gd, 0, none⟩ = some (.slice va4 ls.length ca4) ∧ V.cell? ⟨gd, 1, none⟩ = some (.slice vb4 lp.length cb4))
          (first
            | (refine KC.out _ (NQ.out.trans (Only.of_below _ ?_)); (repeat' (first | with_reducible exact Below.refl _ _ | with_reducible apply bD | with_reducible apply bA)); done)
            | (with_reducible exact boxP_far kQ (by omega) (by omega)))
          (first
            | (go_at_call 23; refine (HN.out 90 _ (src_below HSC.out (by repeat' (first | with_reducible exact Below.refl _ _ | with_reducible apply bD | with_reducible apply bA)) (src_lt HSC.out)) (by omega)).mono ?_; rintro e u1 ⟨v, rfl, hv, hs, hgr⟩; obtain ⟨b1, rfl⟩ := Int.eq_ofNat_of_zero_le hv.1; have hb1 : (b1 : Int) < 90 := hv.2.1 (by omega); have hq := Only.of_grown (p := fun b => b = g) hgr rfl; have NQ : Hid (Only (fun b => b = g) wr u1) := NQ.out.trans ((Only.of_below _ (by repeat' (first | with_reducible exact Below.refl _ _ | with_reducible apply bD | with_reducible apply bA))).trans hq); have HSC : Hid (Draw.Src u1 g a len cap zs) := hs; have hzu1 : wr.heap.size ≤ u1.heap.size := NQ.out.size; clear kQ; have kQ := KC.out _ NQ.out; (first | (have zz' : BoxA u1 _ (.slice none 0 0) (.slice none 0 0) ByteArray.empty 0 0 := hq.row zz (by omega); have hzz' := Nat.lt_of_lt_of_le hzz hq.size; clear zz hzz y0 y1 y2 y3 y4 yf; have zz := zz'; have hzz := hzz'; clear zz' hzz'; obtain ⟨y0, y1, y2, y3, y4⟩ := BoxA.cells zz; have yf := BoxA.frozen zz) | (have zz : BoxA u1 wr.heap.size (.slice none 0 0) (.slice none 0 0) ByteArray.empty 0 0 := hq.row (Sha.row_new wr [.slice none 0 0, .slice none 0 0, .string ByteArray.empty, .int .i64 0, .int .i64 0] 31) (by omega); have hzz : wr.heap.size < u1.heap.size := (by have := hq.size; simp at this; omega); obtain ⟨y0, y1, y2, y3, y4⟩ := BoxA.cells zz; have yf := BoxA.frozen zz) | skip); clear hq hs hgr hv)
            | (go_at_call 22; refine (Draw.bytes_any _ g a len cap zs b1 (src_below HSC.out (by repeat' (first | with_reducible exact Below.refl _ _ | with_reducible apply bD | with_reducible apply bA)) (src_lt HSC.out)) (by omega)).mono ?_; rintro e u2 ⟨tx, rfl, htx, hs, hgr⟩; have hq := Only.of_grown (p := fun b => b = g) hgr rfl; have NQ : Hid (Only (fun b => b = g) wr u2) := NQ.out.trans ((Only.of_below _ (by repeat' (first | with_reducible exact Below.refl _ _ | with_reducible apply bD | with_reducible apply bA))).trans hq); have HSC : Hid (Draw.Src u2 g a len cap zs) := hs; have hzu2 : u1.heap.size ≤ u2.heap.size := Nat.le_trans (by simp) hq.size; clear kQ; have kQ := KC.out _ NQ.out; (first | (have zz' : BoxA u2 _ (.slice none 0 0) (.slice none 0 0) ByteArray.empty 0 0 := hq.row zz (by omega); have hzz' := Nat.lt_of_lt_of_le hzz hq.size; clear zz hzz y0 y1 y2 y3 y4 yf; have zz := zz'; have hzz := hzz'; clear zz' hzz'; obtain ⟨y0, y1, y2, y3, y4⟩ := BoxA.cells zz; have yf := BoxA.frozen zz) | (have zz : BoxA u2 u1.heap.size (.slice none 0 0) (.slice none 0 0) ByteArray.empty 0 0 := hq.row (Sha.row_new u1 [.slice none 0 0, .slice none 0 0, .string ByteArray.empty, .int .i64 0, .int .i64 0] 31) (by omega); have hzz : u1.heap.size < u2.heap.size := (by have := hq.size; simp at this; omega); obtain ⟨y0, y1, y2, y3, y4⟩ := BoxA.cells zz; have yf := BoxA.frozen zz) | skip); have KPT : Hid (∀ V, Only (fun b => b = g) wr V → Calls Tryz.prog 13 #[.agg #[.slice va4 ls.length ca4, .slice vb4 lp.length cb4], .string tx, .int .i64 100] V fun e w' => ToldA V (putAO ls lp tx 100) e w') := (fun V hV => specPut_any _ _ ls lp tx 100 V (KO.out V hV).strs (KO.out V hV).pends HFT.out (by decide)); clear hq hs hgr)
            | (go_at_call 13; refine (KPT.out _ (NQ.out.trans (Only.of_below _ (by repeat' (first | with_reducible exact Below.refl _ _ | with_reducible apply bD | with_reducible apply bA))))).mono ?_; rintro e u3 ⟨us, up, rfl, ho, hb⟩; have HPR : Hid ((putAO ls lp tx 100).c = 0 → rightB (putAO ls lp tx 100).ls (putAO ls lp tx 100).lp = true ∧ (putAO ls lp tx 100).ls.length = ls.length) := put_right HRT.out; generalize putAO ls lp tx 100 = O at *; obtain ⟨ol, op, ot, og, oc⟩ := O; dsimp only at ho HPR; obtain ⟨va5, ca5, vb5, cb5, rfl, rfl⟩ := ho.shape; have hq := Only.of_below (fun b => b = g) hb; have NQ : Hid (Only (fun b => b = g) wr u3) := NQ.out.trans ((Only.of_below _ (by repeat' (first | with_reducible exact Below.refl _ _ | with_reducible apply bD | with_reducible apply bA))).trans hq); have HSC : Hid (Draw.Src u3 g a len cap zs) := src_below (src_below HSC.out (by repeat' (first | with_reducible exact Below.refl _ _ | with_reducible apply bD | with_reducible apply bA)) (src_lt HSC.out)) hb (src_lt (src_below HSC.out (by repeat' (first | with_reducible exact Below.refl _ _ | with_reducible apply bD | with_reducible apply bA)) (src_lt HSC.out))); have hzu3 : u2.heap.size ≤ u3.heap.size := Nat.le_trans (by simp) hb.size; have HOU : Hid (Own u3 _ u3.heap.size (.slice va5 ol.length ca5) (.slice vb5 op.length cb5) ol op) := ho; have hzo : Hid (_ ≤ u3.heap.size) := hb.size; (first | have hzl := hzz | skip); clear kQ; have kQ := KC.out _ NQ.out; (first | (have zz' : BoxA u3 _ (.slice none 0 0) (.slice none 0 0) ByteArray.empty 0 0 := hq.row zz (by omega); have hzz' := Nat.lt_of_lt_of_le hzz hq.size; clear zz hzz y0 y1 y2 y3 y4 yf; have zz := zz'; have hzz := hzz'; clear zz' hzz'; obtain ⟨y0, y1, y2, y3, y4⟩ := BoxA.cells zz; have yf := BoxA.frozen zz) | (have zz : BoxA u3 u2.heap.size (.slice none 0 0) (.slice none 0 0) ByteArray.empty 0 0 := hq.row (Sha.row_new u2 [.slice none 0 0, .slice none 0 0, .string ByteArray.empty, .int .i64 0, .int .i64 0] 31) (by omega); have hzz : u2.heap.size < u3.heap.size := (by have := hq.size; simp at this; omega); obtain ⟨y0, y1, y2, y3, y4⟩ := BoxA.cells zz; have yf := BoxA.frozen zz) | skip); clear hq hb ho))
        all_goals go_wp2_with fail
        all_goals go_meet
        all_goals have hgw := src_lt HL.out.src
        all_goals first
          | (with_reducible refine relP_new HOU.out HPR.out NQ.out HSC.out ?_; first | omega | (simp only [World.size_alloc]; omega))
          | (with_reducible refine relP_set HOU.out HPR.out NQ.out HSC.out zz ?_ ?_ ?_ ?_ hgw <;> first | omega | (simp only [World.size_alloc]; omega))
      case rest =>
        clear kQ NQ HSC
        obtain ⟨gy, va5, ca5, vb5, cb5, ol, op, ot, og, oc, lo5, hi5, rfl, hy, hyo, hyr, hyq, hys, q1, q2, q3, q4, q5⟩ := hcut
        have hgw : g < W.heap.size := hgl
        have HLC : Hid (L4 W wc g gd (fun x => Draw.Src x g a len cap zs) va4 ca4 vb4 cb4 ls lp lo hi) := HL.out.only hyq hys hgw
        have HYC : Hid _ := hy
        have HYOC : Hid (Own wc lo5 hi5 (.slice va5 ol.length ca5) (.slice vb5 op.length cb5) ol op) := hyo
        have HYR : Hid (oc = 0 → rightB ol op = true ∧ ol.length = ls.length) := hyr
        have hzc := hyq.size
        clear hy hyo hyr hyq hys HL KC KO
        go_wp2_with fail
        refine (HO.out 4 _ HLC.out.src (by omega)).mono ?_
        rintro e w6 ⟨bb, rfl, hs6, hg6⟩
        have hq6 := Only.of_grown (p := fun b => b = g) hg6 rfl
        have hz6 := hq6.size
        have HLW : Hid (L4 W w6 g gd (fun x => Draw.Src x g a len cap zs) va4 ca4 vb4 cb4 ls lp lo hi) := HLC.out.only hq6 hs6 hgw
        have HY : Hid (BoxA w6 gy (.slice va5 ol.length ca5) (.slice vb5 op.length cb5) ot og oc) := hq6.row HYC.out (by omega)
        have HYO : Hid (Own w6 lo5 hi5 (.slice va5 ol.length ca5) (.slice vb5 op.length cb5) ol op) := HYOC.out.only hq6 (fun k a1 a2 a3 => by omega)
        clear hs6 hg6 hq6 HLC HYC HYOC
        cases bb
        · have h56 : hi5 ≤ w6.heap.size := by omega
          by_cases hoc : oc = 0
          · have hob : (oc == 0) = true := by simp [hoc]
            have HRR : Hid _ := HYR.out hoc
            clear hoc
            obtain ⟨y0, y1, y2, y3, y4⟩ := BoxA.cells HY.out
            obtain ⟨x0, x1, xf⟩ := Box2.cells HLW.out.x
            have HLN : Hid (L4 W ((w6.setCell ⟨gd, 0, none⟩ (.slice va5 ol.length ca5)).setCell ⟨gd, 1, none⟩ (.slice vb5 op.length cb5)) g gd (fun x => Draw.Src x g a len cap zs) va5 ca5 vb5 cb5 ol op lo5 hi5) := HLW.out.put HYO.out HRR.out (src_only HLW.out.src onlyA_set2 (fun k hk e => by omega)) (by omega) (by omega) (by omega)
            go_wp2_with fail
            refine (HO.out 5 _ HLN.out.src (by omega)).mono ?_
            rintro e w7 ⟨b2, rfl, hs7, hg7⟩
            have hq7 := Only.of_grown (p := fun b => b = g) hg7 rfl
            have HL7 : Hid (L4 W w7 g gd (fun x => Draw.Src x g a len cap zs) va5 ca5 vb5 cb5 ol op lo5 hi5) := HLN.out.only hq7 hs7 hgw
            clear hs7 hg7 hq7 HLN
            cases b2
            · go_wp2_with fail
              go_roundw
              case rel => exact ⟨k - 1, by rw [show ((k - 1 : Nat) : Int) = (k : Int) - 1 by omega], by omega, _, _, _, _, _, _, _, _, HL7.out⟩
              case measure => simp [intOf]; omega
            · have HRT7 : Hid _ := HL7.out.rt
              have HFT7 : Hid _ := fits_right HL7.out.rt
              have g57 := HL7.out.h5
              have g27 := HL7.out.h2
              have g17 := HL7.out.h1
              obtain ⟨x0, x1, xf⟩ := Box2.cells HL7.out.x
              have d0 : w7.drew.cell? ⟨gd, 0, none⟩ = some (.slice va5 ol.length ca5) := x0
              have d1 : w7.drew.cell? ⟨gd, 1, none⟩ = some (.slice vb5 op.length cb5) := x1
              go_wp2_with fail
              go_region_with
                (first
                  | (go_at_call 48; refine (l03Keep_any _ g a len cap zs (src_drew HL7.out.src)).mono ?_; rintro e u1 ⟨vk, kl, rfl, hok, hkl, hs, hq⟩; have HL8 : Hid (L4 W u1 g gd (fun x => Draw.Src x g a len cap zs) va5 ca5 vb5 cb5 ol op lo5 hi5) := HL7.out.only ((Only.of_below _ (bD (Below.refl _ _))).trans hq) hs hgw; have HOK : Hid (OwnI u1 _ vk kl) := hok; have hzk : w7.heap.size ≤ u1.heap.size := hq.size; obtain ⟨c0, c1, cf⟩ := Box2.cells HL8.out.x; clear hok hs hq)
                  | (go_at_call 54; refine (specCrash_any _ _ vk ol op kl _ HL8.out.o.strs HL8.out.o.pends (OwnI.ints HOK.out) (by omega) HFT7.out).mono ?_; rintro e u2 ⟨us, up, rfl, ho, hb⟩; have HCR : Hid _ := crash_right HRT7.out (by omega : ¬ 400 < kl.length); generalize crashO ol op kl = C at *; obtain ⟨cl, cp⟩ := C; dsimp only at ho HCR; obtain ⟨va8, ca8, vb8, cb8, rfl, rfl⟩ := ho.shape; have hzb := hb.size; have HL9 : Hid (L4 W u2 g gd (fun x => Draw.Src x g a len cap zs) va5 ca5 vb5 cb5 ol op lo5 hi5) := HL8.out.only (Only.of_below _ hb) (src_below HL8.out.src hb (src_lt HL8.out.src)) hgw; obtain ⟨e0, e1, ef⟩ := Box2.cells HL9.out.x; have HOC : Hid (Own u2 u1.heap.size u2.heap.size (.slice va8 cl.length ca8) (.slice vb8 cp.length cb8) cl cp) := ho; clear ho hb))
              all_goals go_wp2_with fail
              all_goals exact ⟨⟨k - 1, by rw [show ((k - 1 : Nat) : Int) = (k : Int) - 1 by omega], by omega, _, _, _, _, _, _, _, _, HL9.out.put HOC.out HCR.out (src_only HL9.out.src onlyA_set2 (fun k hk e => by omega)) (by omega) (by omega) (by omega)⟩, by simp [intOf]; omega⟩
          · have hob : (oc == 0) = false := by simp [hoc]
            clear hoc
            obtain ⟨y0, y1, y2, y3, y4⟩ := BoxA.cells HY.out
            go_wp2_with fail
            refine (HO.out 5 _ HLW.out.src (by omega)).mono ?_
            rintro e w7 ⟨b2, rfl, hs7, hg7⟩
            have hq7 := Only.of_grown (p := fun b => b = g) hg7 rfl
            have HL7 : Hid (L4 W w7 g gd (fun x => Draw.Src x g a len cap zs) va4 ca4 vb4 cb4 ls lp lo hi) := HLW.out.only hq7 hs7 hgw
            clear hs7 hg7 hq7 HLW
            cases b2
            · go_wp2_with fail
              go_roundw
              case rel => exact ⟨k - 1, by rw [show ((k - 1 : Nat) : Int) = (k : Int) - 1 by omega], by omega, _, _, _, _, _, _, _, _, HL7.out⟩
              case measure => simp [intOf]; omega
            · have HRT7 : Hid _ := HL7.out.rt
              have HFT7 : Hid _ := fits_right HL7.out.rt
              have g57 := HL7.out.h5
              have g27 := HL7.out.h2
              have g17 := HL7.out.h1
              obtain ⟨x0, x1, xf⟩ := Box2.cells HL7.out.x
              have d0 : w7.drew.cell? ⟨gd, 0, none⟩ = some (.slice va4 ls.length ca4) := x0
              have d1 : w7.drew.cell? ⟨gd, 1, none⟩ = some (.slice vb4 lp.length cb4) := x1
              go_wp2_with fail
              go_region_with
                (first
                  | (go_at_call 48; refine (l03Keep_any _ g a len cap zs (src_drew HL7.out.src)).mono ?_; rintro e u1 ⟨vk, kl, rfl, hok, hkl, hs, hq⟩; have HL8 : Hid (L4 W u1 g gd (fun x => Draw.Src x g a len cap zs) va4 ca4 vb4 cb4 ls lp lo hi) := HL7.out.only ((Only.of_below _ (bD (Below.refl _ _))).trans hq) hs hgw; have HOK : Hid (OwnI u1 _ vk kl) := hok; have hzk : w7.heap.size ≤ u1.heap.size := hq.size; obtain ⟨c0, c1, cf⟩ := Box2.cells HL8.out.x; clear hok hs hq)
                  | (go_at_call 54; refine (specCrash_any _ _ vk ls lp kl _ HL8.out.o.strs HL8.out.o.pends (OwnI.ints HOK.out) (by omega) HFT7.out).mono ?_; rintro e u2 ⟨us, up, rfl, ho, hb⟩; have HCR : Hid _ := crash_right HRT7.out (by omega : ¬ 400 < kl.length); generalize crashO ls lp kl = C at *; obtain ⟨cl, cp⟩ := C; dsimp only at ho HCR; obtain ⟨va8, ca8, vb8, cb8, rfl, rfl⟩ := ho.shape; have hzb := hb.size; have HL9 : Hid (L4 W u2 g gd (fun x => Draw.Src x g a len cap zs) va4 ca4 vb4 cb4 ls lp lo hi) := HL8.out.only (Only.of_below _ hb) (src_below HL8.out.src hb (src_lt HL8.out.src)) hgw; obtain ⟨e0, e1, ef⟩ := Box2.cells HL9.out.x; have HOC : Hid (Own u2 u1.heap.size u2.heap.size (.slice va8 cl.length ca8) (.slice vb8 cp.length cb8) cl cp) := ho; clear ho hb))
              all_goals go_wp2_with fail
              all_goals exact ⟨⟨k - 1, by rw [show ((k - 1 : Nat) : Int) = (k : Int) - 1 by omega], by omega, _, _, _, _, _, _, _, _, HL9.out.put HOC.out HCR.out (src_only HL9.out.src onlyA_set2 (fun k hk e => by omega)) (by omega) (by omega) (by omega)⟩, by simp [intOf]; omega⟩
        · have NQ : Hid (Only (fun b => b = g) w6 w6) := Only.refl _ _
          have HSC : Hid (Draw.Src w6 g a len cap zs) := HLW.out.src
          have g56 := HLW.out.h5
          have g26 := HLW.out.h2
          have KC : Hid (∀ V, Only (fun b => b = g) w6 V → V.cell? ⟨gd, 0, none⟩ = some (.slice va4 ls.length ca4) ∧ V.cell? ⟨gd, 1, none⟩ = some (.slice vb4 lp.length cb4)) := fun V hV => ⟨(Box2.cells (hV.row HLW.out.x (by omega))).1, (Box2.cells (hV.row HLW.out.x (by omega))).2.1⟩
          have KPT : Hid (∀ (tx : ByteArray) (x : Nat) V, x ≤ 100 → Only (fun b => b = g) w6 V → Calls Tryz.prog 13 #[.agg #[.slice va4 ls.length ca4, .slice vb4 lp.length cb4], .string tx, .int .i64 (x : Int)] V fun e w' => ToldA V (putAO ls lp tx (x : Int)) e w') := fun tx x V hx hV => specPut_any _ _ ls lp tx (x : Int) V (HLW.out.o.only hV (fun k h1 h2 h3 => by omega)).strs (HLW.out.o.only hV (fun k h1 h2 h3 => by omega)).pends HFT.out (by simp [Lit.wf, IntKind.min, IntKind.max, IntKind.bits, IntKind.signed]; omega)
          have kQ := KC.out _ NQ.out
          go_wp2_with fail
          go_region_held3 (fun V => V.cell? ⟨gd, 0, none⟩ = some (.slice va4 ls.length ca4) ∧ V.cell? ⟨gd, 1, none⟩ = some (.slice vb4 lp.length cb4))
            (first
              | (refine KC.out _ (NQ.out.trans (Only.of_below _ ?_)); (repeat' (first | with_reducible exact Below.refl _ _ | with_reducible apply bD | with_reducible apply bA)); done)
              | (with_reducible exact boxP_far kQ (by omega) (by omega)))
            (first
              | (go_at_call 23; refine (HN.out _ _ (src_below HSC.out (by repeat' (first | with_reducible exact Below.refl _ _ | with_reducible apply bD | with_reducible apply bA)) (src_lt HSC.out)) (by omega)).mono ?_; rintro e u1 ⟨v, rfl, hv, hs, hgr⟩; obtain ⟨b1, rfl⟩ := Int.eq_ofNat_of_zero_le hv.1; have hb1 : (b1 : Int) < 90 := (by have := hv.2.1 (by omega); omega); have hq := Only.of_grown (p := fun b => b = g) hgr rfl; have NQ : Hid (Only (fun b => b = g) w6 u1) := NQ.out.trans ((Only.of_below _ (by repeat' (first | with_reducible exact Below.refl _ _ | with_reducible apply bD | with_reducible apply bA))).trans hq); have HSC : Hid (Draw.Src u1 g a len cap zs) := hs; have hzu1 : w6.heap.size ≤ u1.heap.size := NQ.out.size; clear hq hs hgr hv)
              | (go_at_call 22; refine (Draw.bytes_any _ g a len cap zs b1 (src_below HSC.out (by repeat' (first | with_reducible exact Below.refl _ _ | with_reducible apply bD | with_reducible apply bA)) (src_lt HSC.out)) (by omega)).mono ?_; rintro e u2 ⟨tx, rfl, htx, hs, hgr⟩; have hq := Only.of_grown (p := fun b => b = g) hgr rfl; have NQ : Hid (Only (fun b => b = g) w6 u2) := NQ.out.trans ((Only.of_below _ (by repeat' (first | with_reducible exact Below.refl _ _ | with_reducible apply bD | with_reducible apply bA))).trans hq); have HSC : Hid (Draw.Src u2 g a len cap zs) := hs; clear hq hs hgr)
              | (go_at_call 13; refine (KPT.out tx b1 _ (by omega) (NQ.out.trans (Only.of_below _ (by repeat' (first | with_reducible exact Below.refl _ _ | with_reducible apply bD | with_reducible apply bA))))).mono ?_; rintro e u3 ⟨us, up, rfl, ho, hb⟩; have HPR : Hid ((putAO ls lp tx (b1 : Int)).c = 0 → rightB (putAO ls lp tx (b1 : Int)).ls (putAO ls lp tx (b1 : Int)).lp = true ∧ (putAO ls lp tx (b1 : Int)).ls.length = ls.length) := put_right HRT.out; generalize putAO ls lp tx (b1 : Int) = O at *; obtain ⟨ol, op, ot, og, oc⟩ := O; dsimp only at ho HPR; obtain ⟨va5, ca5, vb5, cb5, rfl, rfl⟩ := ho.shape; have hzo : u1.heap.size ≤ u3.heap.size := hb.size; have NQ3 : Hid (Only (fun b => b = g) w6 u3) := NQ.out.trans ((Only.of_below _ (by repeat' (first | with_reducible exact Below.refl _ _ | with_reducible apply bD | with_reducible apply bA))).trans (Only.of_below _ hb)); have HS3 : Hid (Draw.Src u3 g a len cap zs) := src_below (src_below HSC.out (by repeat' (first | with_reducible exact Below.refl _ _ | with_reducible apply bD | with_reducible apply bA)) (src_lt HSC.out)) hb (src_lt (src_below HSC.out (by repeat' (first | with_reducible exact Below.refl _ _ | with_reducible apply bD | with_reducible apply bA)) (src_lt HSC.out))); have HOU : Hid (Own u3 u1.heap.size u3.heap.size (.slice va5 ol.length ca5) (.slice vb5 op.length cb5) ol op) := ho; have NQ : Hid (Only (fun b => b = g) w6 u3) := NQ3.out; have HYU : Hid (BoxA u3 gy _ _ _ _ _) := NQ3.out.row HY.out (by omega); obtain ⟨y0, y1, y2, y3, y4⟩ := BoxA.cells HYU.out; have yf := BoxA.frozen HYU.out; clear kQ; have kQ := KC.out _ NQ3.out; have hqg : gd < u3.heap.size := (by omega); clear hb ho))
          obtain ⟨w8, hw8⟩ : ∃ w8, w8 = ((((u3.setCell ⟨gy, 0, none⟩ (.slice va5 ol.length ca5)).setCell ⟨gy, 1, none⟩ (.slice vb5 op.length cb5)).setCell ⟨gy, 2, none⟩ (.string ot)).setCell ⟨gy, 3, none⟩ (.int .i64 og)).setCell ⟨gy, 4, none⟩ (.int .i64 oc) := ⟨_, rfl⟩
          have o5 : Only (fun k => k = gy) u3 w8 := by rw [hw8]; exact onlyA_set5
          have hgu := src_lt HS3.out
          have HLX : Hid (L4 W w8 g gd (fun x => Draw.Src x g a len cap zs) va4 ca4 vb4 cb4 ls lp lo hi) := (HLW.out.only NQ3.out HS3.out hgw).far o5 (src_only HS3.out o5 (fun k hk e => by omega)) (by omega) (by omega) (.inr (by omega))
          have HYX : Hid (BoxA w8 gy (.slice va5 ol.length ca5) (.slice vb5 op.length cb5) ot og oc) := by rw [hw8]; exact row_set (row_set (row_set (row_set (row_set HYU.out 0 _) 1 _) 2 _) 3 _) 4 _
          have HYOX : Hid (Own w8 u1.heap.size u3.heap.size (.slice va5 ol.length ca5) (.slice vb5 op.length cb5) ol op) := HOU.out.only o5 (fun k a1 a2 a3 => by omega)
          have HYRX : Hid (oc = 0 → rightB ol op = true ∧ ol.length = ls.length) := HPR.out
          have z8 := o5.size
          clear HLW HY HYO HYR HYU HOU HPR NQ NQ3 HS3 HSC KC KPT kQ y0 y1 y2 y3 y4 yf o5
          have HLW := HLX
          have HY := HYX
          have HYO := HYOX
          have HYR := HYRX
          clear HLX HYX HYOX HYRX
          obtain ⟨lo5, hlo5⟩ : ∃ x, x = u1.heap.size := ⟨_, rfl⟩
          obtain ⟨hi5, hhi5⟩ : ∃ x, x = u3.heap.size := ⟨_, rfl⟩
          rw [← hlo5, ← hhi5] at HYO
          rw [← hw8]
          clear hw8
          by_cases hoc : oc = 0
          · have hob : (oc == 0) = true := by simp [hoc]
            have HRR : Hid _ := HYR.out hoc
            clear hoc
            obtain ⟨y0, y1, y2, y3, y4⟩ := BoxA.cells HY.out
            obtain ⟨x0, x1, xf⟩ := Box2.cells HLW.out.x
            have HLN : Hid (L4 W ((w8.setCell ⟨gd, 0, none⟩ (.slice va5 ol.length ca5)).setCell ⟨gd, 1, none⟩ (.slice vb5 op.length cb5)) g gd (fun x => Draw.Src x g a len cap zs) va5 ca5 vb5 cb5 ol op lo5 hi5) := HLW.out.put HYO.out HRR.out (src_only HLW.out.src onlyA_set2 (fun k hk e => by omega)) (by omega) (by omega) (by omega)
            go_wp2_with fail
            refine (HO.out 5 _ HLN.out.src (by omega)).mono ?_
            rintro e w7 ⟨b2, rfl, hs7, hg7⟩
            have hq7 := Only.of_grown (p := fun b => b = g) hg7 rfl
            have HL7 : Hid (L4 W w7 g gd (fun x => Draw.Src x g a len cap zs) va5 ca5 vb5 cb5 ol op lo5 hi5) := HLN.out.only hq7 hs7 hgw
            clear hs7 hg7 hq7 HLN
            cases b2
            · go_wp2_with fail
              go_roundw
              case rel => exact ⟨k - 1, by rw [show ((k - 1 : Nat) : Int) = (k : Int) - 1 by omega], by omega, _, _, _, _, _, _, _, _, HL7.out⟩
              case measure => simp [intOf]; omega
            · have HRT7 : Hid _ := HL7.out.rt
              have HFT7 : Hid _ := fits_right HL7.out.rt
              have g57 := HL7.out.h5
              have g27 := HL7.out.h2
              have g17 := HL7.out.h1
              obtain ⟨x0, x1, xf⟩ := Box2.cells HL7.out.x
              have d0 : w7.drew.cell? ⟨gd, 0, none⟩ = some (.slice va5 ol.length ca5) := x0
              have d1 : w7.drew.cell? ⟨gd, 1, none⟩ = some (.slice vb5 op.length cb5) := x1
              go_wp2_with fail
              go_region_with
                (first
                  | (go_at_call 48; refine (l03Keep_any _ g a len cap zs (src_drew HL7.out.src)).mono ?_; rintro e u1 ⟨vk, kl, rfl, hok, hkl, hs, hq⟩; have HL8 : Hid (L4 W u1 g gd (fun x => Draw.Src x g a len cap zs) va5 ca5 vb5 cb5 ol op lo5 hi5) := HL7.out.only ((Only.of_below _ (bD (Below.refl _ _))).trans hq) hs hgw; have HOK : Hid (OwnI u1 _ vk kl) := hok; have hzk : w7.heap.size ≤ u1.heap.size := hq.size; obtain ⟨c0, c1, cf⟩ := Box2.cells HL8.out.x; clear hok hs hq)
                  | (go_at_call 54; refine (specCrash_any _ _ vk ol op kl _ HL8.out.o.strs HL8.out.o.pends (OwnI.ints HOK.out) (by omega) HFT7.out).mono ?_; rintro e u2 ⟨us, up, rfl, ho, hb⟩; have HCR : Hid _ := crash_right HRT7.out (by omega : ¬ 400 < kl.length); generalize crashO ol op kl = C at *; obtain ⟨cl, cp⟩ := C; dsimp only at ho HCR; obtain ⟨va8, ca8, vb8, cb8, rfl, rfl⟩ := ho.shape; have hzb := hb.size; have HL9 : Hid (L4 W u2 g gd (fun x => Draw.Src x g a len cap zs) va5 ca5 vb5 cb5 ol op lo5 hi5) := HL8.out.only (Only.of_below _ hb) (src_below HL8.out.src hb (src_lt HL8.out.src)) hgw; obtain ⟨e0, e1, ef⟩ := Box2.cells HL9.out.x; have HOC : Hid (Own u2 u1.heap.size u2.heap.size (.slice va8 cl.length ca8) (.slice vb8 cp.length cb8) cl cp) := ho; clear ho hb))
              all_goals go_wp2_with fail
              all_goals exact ⟨⟨k - 1, by rw [show ((k - 1 : Nat) : Int) = (k : Int) - 1 by omega], by omega, _, _, _, _, _, _, _, _, HL9.out.put HOC.out HCR.out (src_only HL9.out.src onlyA_set2 (fun k hk e => by omega)) (by omega) (by omega) (by omega)⟩, by simp [intOf]; omega⟩
          · have hob : (oc == 0) = false := by simp [hoc]
            clear hoc
            obtain ⟨y0, y1, y2, y3, y4⟩ := BoxA.cells HY.out
            go_wp2_with fail
            refine (HO.out 5 _ HLW.out.src (by omega)).mono ?_
            rintro e w7 ⟨b2, rfl, hs7, hg7⟩
            have hq7 := Only.of_grown (p := fun b => b = g) hg7 rfl
            have HL7 : Hid (L4 W w7 g gd (fun x => Draw.Src x g a len cap zs) va4 ca4 vb4 cb4 ls lp lo hi) := HLW.out.only hq7 hs7 hgw
            clear hs7 hg7 hq7 HLW
            cases b2
            · go_wp2_with fail
              go_roundw
              case rel => exact ⟨k - 1, by rw [show ((k - 1 : Nat) : Int) = (k : Int) - 1 by omega], by omega, _, _, _, _, _, _, _, _, HL7.out⟩
              case measure => simp [intOf]; omega
            · have HRT7 : Hid _ := HL7.out.rt
              have HFT7 : Hid _ := fits_right HL7.out.rt
              have g57 := HL7.out.h5
              have g27 := HL7.out.h2
              have g17 := HL7.out.h1
              obtain ⟨x0, x1, xf⟩ := Box2.cells HL7.out.x
              have d0 : w7.drew.cell? ⟨gd, 0, none⟩ = some (.slice va4 ls.length ca4) := x0
              have d1 : w7.drew.cell? ⟨gd, 1, none⟩ = some (.slice vb4 lp.length cb4) := x1
              go_wp2_with fail
              go_region_with
                (first
                  | (go_at_call 48; refine (l03Keep_any _ g a len cap zs (src_drew HL7.out.src)).mono ?_; rintro e u1 ⟨vk, kl, rfl, hok, hkl, hs, hq⟩; have HL8 : Hid (L4 W u1 g gd (fun x => Draw.Src x g a len cap zs) va4 ca4 vb4 cb4 ls lp lo hi) := HL7.out.only ((Only.of_below _ (bD (Below.refl _ _))).trans hq) hs hgw; have HOK : Hid (OwnI u1 _ vk kl) := hok; have hzk : w7.heap.size ≤ u1.heap.size := hq.size; obtain ⟨c0, c1, cf⟩ := Box2.cells HL8.out.x; clear hok hs hq)
                  | (go_at_call 54; refine (specCrash_any _ _ vk ls lp kl _ HL8.out.o.strs HL8.out.o.pends (OwnI.ints HOK.out) (by omega) HFT7.out).mono ?_; rintro e u2 ⟨us, up, rfl, ho, hb⟩; have HCR : Hid _ := crash_right HRT7.out (by omega : ¬ 400 < kl.length); generalize crashO ls lp kl = C at *; obtain ⟨cl, cp⟩ := C; dsimp only at ho HCR; obtain ⟨va8, ca8, vb8, cb8, rfl, rfl⟩ := ho.shape; have hzb := hb.size; have HL9 : Hid (L4 W u2 g gd (fun x => Draw.Src x g a len cap zs) va4 ca4 vb4 cb4 ls lp lo hi) := HL8.out.only (Only.of_below _ hb) (src_below HL8.out.src hb (src_lt HL8.out.src)) hgw; obtain ⟨e0, e1, ef⟩ := Box2.cells HL9.out.x; have HOC : Hid (Own u2 u1.heap.size u2.heap.size (.slice va8 cl.length ca8) (.slice vb8 cp.length cb8) cl cp) := ho; clear ho hb))
              all_goals go_wp2_with fail
              all_goals exact ⟨⟨k - 1, by rw [show ((k - 1 : Nat) : Int) = (k : Int) - 1 by omega], by omega, _, _, _, _, _, _, _, _, HL9.out.put HOC.out HCR.out (src_only HL9.out.src onlyA_set2 (fun k hk e => by omega)) (by omega) (by omega) (by omega)⟩, by simp [intOf]; omega⟩
    · have hk1i : ¬ (0 : Int) < (k : Int) := by omega
      have hgw : g < W.heap.size := hgl
      go_wp2_with fail
      refine (HO.out 12 _ HL.out.src (by omega)).mono ?_
      rintro e w6 ⟨b6, rfl, hs6, hg6⟩
      have hq6 := Only.of_grown (p := fun b => b = g) hg6 rfl
      have HL6 : Hid _ := HL.out.only hq6 hs6 hgw
      clear hs6 hg6 hq6 HL
      cases b6
      · have HF : Hid _ := HL6.out.little
        clear HL6
        go_wp2_with fail
        refine (HO.out 20 _ HF.out.src (by omega)).mono ?_
        rintro e w7 ⟨b7, rfl, hs7, hg7⟩
        have hq7 := Only.of_grown (p := fun b => b = g) hg7 rfl
        have HF7 : Hid _ := HF.out.only hq7 hs7 hgl
        clear hs7 hg7 hq7
        have f4 := HF7.out.h4
        have f5 := HF7.out.h5
        have f1 := HF7.out.h1
        have f2 := HF7.out.h2
        have hzW := HF7.out.og.size
        obtain ⟨x0, x1, xf⟩ := Box2.cells HF7.out.x
        cases b7
        · obtain ⟨r0, r1, rf⟩ := Box2.cells HF7.out.r
          go_wp2_with fail
          exact bodyPost_ret (v := .agg #[.slice va4 ls.length ca4, .slice vb4 lp.length cb4]) (by simp [results, Tryz.results21, go_sem, r0, r1]) rfl (fin_mk hgl onlyA_set2 (HF7.out.o.wide f1 (by simp; omega)) HF7.out.lt HF7.out.src HF7.out.og)
        · go_wp2_with fail
          refine (H3.out _ HF7.out.src).mono ?_
          rintro e w8 ⟨us8, up8, ls8, lp8, rfl, ho8, hl8, hs8, hg8⟩
          obtain ⟨va8, ca8, vb8, cb8, rfl, rfl⟩ := ho8.shape
          have hq8 := Only.of_grown (p := fun b => b = g) hg8 rfl
          have hz8 := hq8.size
          obtain ⟨r0, r1, rf⟩ := Box2.cells (hq8.row HF7.out.r (by omega) : Box2 w8 W.heap.size _ _)
          have HO8 : Hid (Own w8 w7.heap.size w8.heap.size (.slice va8 ls8.length ca8) (.slice vb8 lp8.length cb8) ls8 lp8) := ho8
          have HL8 : Hid (Little ls8 lp8) := hl8
          have HS8 : Hid (Draw.Src w8 g a len cap zs) := hs8
          have HG8 : Hid (Only (fun b => b = g) W w8) := HF7.out.og.trans hq8
          clear ho8 hl8 hs8 hg8 hq8
          go_wp2_with fail
          exact bodyPost_ret (v := .agg #[.slice va8 ls8.length ca8, .slice vb8 lp8.length cb8]) (by simp [results, Tryz.results21, go_sem, r0, r1]) rfl (fin_mk hgl onlyA_set2 (HO8.out.wide (by omega) (by simp)) HL8.out HS8.out HG8.out)
      · have l3 := HL6.out.l3
        have l14 := HL6.out.l14
        have f4 := HL6.out.h4
        have f5 := HL6.out.h5
        have f1 := HL6.out.h1
        have f2 := HL6.out.h2
        have f3 := HL6.out.h3
        obtain ⟨gs, os, rfl, hgs1, hgs2, hsA⟩ := own_row HL6.out.o (by omega)
        have HSA : Hid _ := hsA
        obtain ⟨x0, x1, xf⟩ := Box2.cells HL6.out.x
        clear hsA
        go_wp2_with fail
        refine (HN.out _ _ HL6.out.src (by omega)).mono ?_
        rintro e w8 ⟨v, rfl, hv, hs8, hg8⟩
        obtain ⟨k1, rfl⟩ := Int.eq_ofNat_of_zero_le hv.1
        have hk1l : (k1 : Int) < (ls.length : Int) := hv.2.1 (by omega)
        have hk1n : k1 < ls.length := by omega
        have hq8 := Only.of_grown (p := fun b => b = g) hg8 rfl
        have HL8 : Hid _ := HL6.out.only hq8 hs8 hgw
        clear hv hs8 hg8 hq8 HL6 HSA x0 x1 xf
        have f5b := HL8.out.h5
        have f2b := HL8.out.h2
        obtain ⟨gs', os', e1, _, _, hsA⟩ := own_row HL8.out.o (by omega)
        injection e1 with e1
        injection e1 with e4 e5 _
        subst e4 e5
        obtain ⟨s0, sf⟩ := hsA k1 hk1n
        have hts : (ls[k1]).size ≤ 64 := ((right_iff ls lp).1 HL8.out.rt).2.2.2.1 _ (List.getElem_mem hk1n)
        obtain ⟨x0, x1, xf⟩ := Box2.cells HL8.out.x
        generalize ls[k1] = t0 at *
        clear hsA
        go_wp2_with fail
        go_region_with
          (first
            | (go_at_call 55; refine (Draw.spoil_any _ g a len cap zs t0 (src_drew HL8.out.src) (by omega)).mono ?_; rintro e u1 ⟨t2, rfl, ht2, hs, hgr⟩; have hq := Only.of_grown (p := fun b => b = g) hgr rfl; have HL9 : Hid (L4 W u1 g gd (fun x => Draw.Src x g a len cap zs) _ _ _ _ _ _ _ _) := HL8.out.only ((Only.of_below _ (bD (Below.refl _ _))).trans hq) hs hgw; obtain ⟨c0, c1, cf⟩ := Box2.cells HL9.out.x; have hzu : w8.heap.size ≤ u1.heap.size := hq.size; have k0 := ((hq.cell (a := ⟨gs, os + k1, none⟩) (by show gs < _; simp; omega) (by simp only; omega)).trans s0 : u1.cell? ⟨gs, os + k1, none⟩ = _); have kf := ((hq.frozen (a := ⟨gs, os + k1, none⟩) (by show gs < _; simp; omega) (by simp only; omega)).trans sf : u1.frozen? ⟨gs, os + k1, none⟩ = _); clear hs hgr hq))
        all_goals
          have HFA : Hid (F4 W (u1.setCell ⟨gs, os + k1, none⟩ (.string t2)) g gd (fun x => Draw.Src x g a len cap zs) (some ⟨gs, os, none⟩) ca4 vb4 cb4 (ls.set k1 t2) lp lo hi) := HL9.out.little.turn k1 hk1n t2 (by omega) hgs1 hgs2 hgw
          have hn0 : (u1.setCell ⟨gs, os + k1, none⟩ (.string t2)).cell? ⟨gs, os + k1, none⟩ = some (.string t2) := by
            have h := (own_row HFA.out.o (by rw [List.length_set]; omega))
            obtain ⟨gs'', os'', e6, _, _, hz9⟩ := h
            injection e6 with e6
            injection e6 with e7 e8 _
            subst e7 e8
            have h9 := (hz9 k1 (by rw [List.length_set]; exact hk1n)).1
            rw [List.getElem_set_self] at h9
            exact h9
          obtain ⟨w9, hw9⟩ : ∃ w9, w9 = u1.setCell ⟨gs, os + k1, none⟩ (.string t2) := ⟨_, rfl⟩
          rw [← hw9] at HFA hn0 ⊢
          obtain ⟨x90, x91, x9f⟩ := Box2.cells HFA.out.x
          rw [List.length_set] at x90
          by_cases hbig : 64 < t2.size
          · have hbi : (64 : Int) < (t2.size : Int) := by omega
            clear hw9 HL8 HL9 c0 c1 cf k0 kf x0 x1 xf s0 sf
            have hb2 : (64 : Int) ≤ (t2.size : Int) := by omega
            have hb3 : ¬ (t2.size : Int) < (64 : Int) := by omega
            have hb4 : 64 ≤ t2.size := by omega
            have hn1 : w9.frozen? ⟨gs, os + k1, none⟩ = false := by
              obtain ⟨gs'', os'', e6, _, _, hz9⟩ := own_row HFA.out.o (by rw [List.length_set]; omega)
              injection e6 with e6
              injection e6 with e7 e8 _
              subst e7 e8
              exact (hz9 k1 (by rw [List.length_set]; exact hk1n)).2
            go_wp2_with fail
            go_region_with fail
            all_goals
              have hqd : Only (fun b => b = g) (w9.setCell ⟨gs, os + k1, none⟩ (.string (t2.extract 0 64))) (w9.setCell ⟨gs, os + k1, none⟩ (.string (t2.extract 0 64))).drew := Only.of_below _ (bD (Below.refl _ _))
              have HFB := HFA.out.turn k1 (by rw [List.length_set]; exact hk1n) (t2.extract 0 64) (by rw [ByteArray.size_extract]; omega) hgs1 hgs2 hgw
              have HF : Hid _ := HFB.only hqd (src_drew HFB.src) hgw
              generalize (ls.set k1 t2).set k1 (t2.extract 0 64) = lsn at HF
              generalize (w9.setCell ⟨gs, os + k1, none⟩ (.string (t2.extract 0 64))).drew = w10 at HF ⊢
              clear HFB HFA hqd hn0 hn1 x90 x91 x9f
              go_wp2_with fail
              refine (HO.out 20 _ HF.out.src (by omega)).mono ?_
              rintro e w7 ⟨b7, rfl, hs7, hg7⟩
              have hq7 := Only.of_grown (p := fun b => b = g) hg7 rfl
              have HF7 : Hid _ := HF.out.only hq7 hs7 hgl
              clear hs7 hg7 hq7
              have f4 := HF7.out.h4
              have f5 := HF7.out.h5
              have f1 := HF7.out.h1
              have f2 := HF7.out.h2
              have hzW := HF7.out.og.size
              obtain ⟨x0, x1, xf⟩ := Box2.cells HF7.out.x
              cases b7
              · obtain ⟨r0, r1, rf⟩ := Box2.cells HF7.out.r
                go_wp2_with fail
                exact bodyPost_ret (v := .agg #[.slice (some ⟨gs, os, none⟩) lsn.length ca4, .slice vb4 lp.length cb4]) (by simp [results, Tryz.results21, go_sem, r0, r1]) rfl (fin_mk hgl onlyA_set2 (HF7.out.o.wide f1 (by simp; omega)) HF7.out.lt HF7.out.src HF7.out.og)
              · go_wp2_with fail
                refine (H3.out _ HF7.out.src).mono ?_
                rintro e w8 ⟨us8, up8, ls8, lp8, rfl, ho8, hl8, hs8, hg8⟩
                obtain ⟨va8, ca8, vb8, cb8, rfl, rfl⟩ := ho8.shape
                have hq8 := Only.of_grown (p := fun b => b = g) hg8 rfl
                have hz8 := hq8.size
                obtain ⟨r0, r1, rf⟩ := Box2.cells (hq8.row HF7.out.r (by omega) : Box2 w8 W.heap.size _ _)
                have HO8 : Hid (Own w8 w7.heap.size w8.heap.size (.slice va8 ls8.length ca8) (.slice vb8 lp8.length cb8) ls8 lp8) := ho8
                have HL8 : Hid (Little ls8 lp8) := hl8
                have HS8 : Hid (Draw.Src w8 g a len cap zs) := hs8
                have HG8 : Hid (Only (fun b => b = g) W w8) := HF7.out.og.trans hq8
                clear ho8 hl8 hs8 hg8 hq8
                go_wp2_with fail
                exact bodyPost_ret (v := .agg #[.slice va8 ls8.length ca8, .slice vb8 lp8.length cb8]) (by simp [results, Tryz.results21, go_sem, r0, r1]) rfl (fin_mk hgl onlyA_set2 (HO8.out.wide (by omega) (by simp)) HL8.out HS8.out HG8.out)
          · have hbi : ¬ (64 : Int) < (t2.size : Int) := by omega
            have HF := HFA
            clear hw9 HL8 HL9 c0 c1 cf k0 kf x0 x1 xf s0 sf HFA
            go_wp2_with fail
            refine (HO.out 20 _ HF.out.src (by omega)).mono ?_
            rintro e w7 ⟨b7, rfl, hs7, hg7⟩
            have hq7 := Only.of_grown (p := fun b => b = g) hg7 rfl
            have HF7 : Hid _ := HF.out.only hq7 hs7 hgl
            clear hs7 hg7 hq7
            have f4 := HF7.out.h4
            have f5 := HF7.out.h5
            have f1 := HF7.out.h1
            have f2 := HF7.out.h2
            have hzW := HF7.out.og.size
            obtain ⟨x0, x1, xf⟩ := Box2.cells HF7.out.x
            cases b7
            · obtain ⟨r0, r1, rf⟩ := Box2.cells HF7.out.r
              go_wp2_with fail
              exact bodyPost_ret (v := .agg #[.slice (some ⟨gs, os, none⟩) (ls.set k1 t2).length ca4, .slice vb4 lp.length cb4]) (by simp [results, Tryz.results21, go_sem, r0, r1]) rfl (fin_mk hgl onlyA_set2 (HF7.out.o.wide f1 (by simp; omega)) HF7.out.lt HF7.out.src HF7.out.og)
            · go_wp2_with fail
              refine (H3.out _ HF7.out.src).mono ?_
              rintro e w8 ⟨us8, up8, ls8, lp8, rfl, ho8, hl8, hs8, hg8⟩
              obtain ⟨va8, ca8, vb8, cb8, rfl, rfl⟩ := ho8.shape
              have hq8 := Only.of_grown (p := fun b => b = g) hg8 rfl
              have hz8 := hq8.size
              obtain ⟨r0, r1, rf⟩ := Box2.cells (hq8.row HF7.out.r (by omega) : Box2 w8 W.heap.size _ _)
              have HO8 : Hid (Own w8 w7.heap.size w8.heap.size (.slice va8 ls8.length ca8) (.slice vb8 lp8.length cb8) ls8 lp8) := ho8
              have HL8 : Hid (Little ls8 lp8) := hl8
              have HS8 : Hid (Draw.Src w8 g a len cap zs) := hs8
              have HG8 : Hid (Only (fun b => b = g) W w8) := HF7.out.og.trans hq8
              clear ho8 hl8 hs8 hg8 hq8
              go_wp2_with fail
              exact bodyPost_ret (v := .agg #[.slice va8 ls8.length ca8, .slice vb8 lp8.length cb8]) (by simp [results, Tryz.results21, go_sem, r0, r1]) rfl (fin_mk hgl onlyA_set2 (HO8.out.wide (by omega) (by simp)) HL8.out HS8.out HG8.out)
end Go.Proofs.YtkigmpeanllimaaGreatDoor.Disk
