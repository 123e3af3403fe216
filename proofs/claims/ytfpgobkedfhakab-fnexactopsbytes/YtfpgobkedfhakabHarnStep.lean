/- Lists of Step: compared, copied, sized, marked and held by the laws' own functions. -/
import Derived.Test.YtfpgobkedfhakabTextsB
import Derived.Test.YtfpgobkedfhakabTextsC
import Derived.Deep.RegionHeld3
import Derived.Test.YtfpgobkedfhakabTextsA
namespace Go.Proofs.Ytfpgobkedfhakab.Del
open Go.RowKit Go.Proofs.Ytfpgobkedfhakab.Mem Go.Proofs.Ytfpgobkedfhakab.Mark Go.Proofs.Ytfpgobkedfhakab.Harn Go.Proofs.Ytfpgobkedfhakab.Rws

structure Pc where
  f : Int
  m : Int
  t : ByteArray
def Pc.row (x : Pc) : List Value := [.int .i64 x.f, .int .i64 x.m, .string x.t]
def Pc.val (x : Pc) : Value := .agg #[.int .i64 x.f, .int .i64 x.m, .string x.t]
def Pc.zero : Pc := ⟨0, 0, ByteArray.empty⟩
def Ls (W : World) (v : Value) (l : List Pc) : Prop := Rs W 3 v (l.map Pc.row)
def LsAt (W : World) (g o : Nat) (l : List Pc) : Prop := RsAt W 3 g o (l.map Pc.row)
theorem Ls.at {W : World} {v : Value} {l : List Pc} (h : Ls W v l) : ∃ a cap, v = .slice a l.length cap ∧ ∀ j (h : j < l.length), ∃ b o, a = some ⟨b, o, none⟩ ∧ W.cell? ⟨b, o + j * 3, none⟩ = some (.int .i64 l[j].f) ∧ W.cell? ⟨b, o + j * 3 + 1, none⟩ = some (.int .i64 l[j].m) ∧ W.cell? ⟨b, o + j * 3 + 2, none⟩ = some (.string l[j].t) := by
  obtain ⟨a, cap, hv, hc⟩ := h
  refine ⟨a, cap, by rw [hv, List.length_map], fun j hj => ?_⟩
  obtain ⟨b, o, ha, hi⟩ := hc j (by simpa using hj)
  refine ⟨b, o, ha, ?_, ?_, ?_⟩
  · obtain ⟨u, h1, h2⟩ := hi 0 (by omega)
    simp [Pc.row] at h1
    subst h1; simpa using h2
  · obtain ⟨u, h1, h2⟩ := hi 1 (by omega)
    simp [Pc.row] at h1
    subst h1; simpa using h2
  · obtain ⟨u, h1, h2⟩ := hi 2 (by omega)
    simp [Pc.row] at h1
    subst h1; simpa using h2
theorem LsAt.at {W : World} {g o : Nat} {l : List Pc} (h : LsAt W g o l) (j : Nat) (hj : j < l.length) : (W.cell? ⟨g, o + j * 3, none⟩ = some (.int .i64 l[j].f) ∧ W.cell? ⟨g, o + j * 3 + 1, none⟩ = some (.int .i64 l[j].m) ∧ W.cell? ⟨g, o + j * 3 + 2, none⟩ = some (.string l[j].t)) ∧ W.frozen? ⟨g, o + j * 3, none⟩ = false ∧ W.frozen? ⟨g, o + j * 3 + 1, none⟩ = false ∧ W.frozen? ⟨g, o + j * 3 + 2, none⟩ = false := by
  refine ⟨⟨?_, ?_, ?_⟩, ?_, ?_, ?_⟩
  · obtain ⟨⟨u, h1, h2⟩, _⟩ := h j (by simpa using hj) 0 (by omega)
    simp [Pc.row] at h1
    subst h1; simpa using h2
  · obtain ⟨⟨u, h1, h2⟩, _⟩ := h j (by simpa using hj) 1 (by omega)
    simp [Pc.row] at h1
    subst h1; simpa using h2
  · obtain ⟨⟨u, h1, h2⟩, _⟩ := h j (by simpa using hj) 2 (by omega)
    simp [Pc.row] at h1
    subst h1; simpa using h2
  · have := (h j (by simpa using hj) 0 (by omega)).2
    simpa using this
  · have := (h j (by simpa using hj) 1 (by omega)).2
    simpa using this
  · have := (h j (by simpa using hj) 2 (by omega)).2
    simpa using this
theorem Ls.below {W W' : World} {v : Value} {l : List Pc} (h : Ls W v l) (hb : Below W.heap.size W W') : Ls W' v l := Rs.below h hb
theorem LsAt.ls {W : World} {g o : Nat} {l : List Pc} (h : LsAt W g o l) (c : Nat) : Ls W (.slice (some ⟨g, o, none⟩) l.length c) l := by
  have := RsAt.rs h c
  rwa [List.length_map] at this
theorem LsAt.below {W W' : World} {g o : Nat} {l : List Pc} (h : LsAt W g o l) (hb : Below W.heap.size W W') : LsAt W' g o l := RsAt.below h hb
theorem LsAt.lt {W : World} {g o : Nat} {l : List Pc} (h : LsAt W g o l) (h0 : 0 < l.length) : g < W.heap.size := RsAt.lt h (by omega) (by simpa using h0)
theorem LsAt.other {W : World} {g o : Nat} {l : List Pc} (h : LsAt W g o l) (a : Addr) (v : Value) (hg : g ≠ a.block) : LsAt (W.setCell a v) g o l := RsAt.other h a v hg
theorem LsAt.grown {W W' : World} {g o : Nat} {r : Option Nat} {l : List Pc} (h : LsAt W g o l) (hg : W.grownBy W' r) (hr : r ≠ some g) : LsAt W' g o l := RsAt.grown h hg hr
theorem LsAt.set {W : World} {g o j : Nat} {l : List Pc} (h : LsAt W g o l) (hj : j < l.length) (x0 : Int) (x1 : Int) (x2 : ByteArray) : LsAt (((W.setCell ⟨g, o + j * 3, none⟩ (.int .i64 x0)).setCell ⟨g, o + j * 3 + 1, none⟩ (.int .i64 x1)).setCell ⟨g, o + j * 3 + 2, none⟩ (.string x2)) g o (l.set j ⟨x0, x1, x2⟩) := by
  have hl : j < (l.map Pc.row).length := by simpa using hj
  have h0 := RsAt.set h (j := j) (i := 0) (by simpa using hj) (by omega) (.int .i64 x0)
  have h1 := RsAt.set h0 (j := j) (i := 1) (by simpa using hj) (by omega) (.int .i64 x1)
  have h2 := RsAt.set h1 (j := j) (i := 2) (by simpa using hj) (by omega) (.string x2)
  unfold LsAt
  rw [List.map_set]
  simp only [List.getElem_set_self, List.set_set, List.getElem_map, Nat.add_zero] at h2
  exact h2

theorem to1 (x : Pc) (w : World) :
    Calls Try.prog 32 #[x.val] w fun e w' => e = .returned x.val ∧ Below w.heap.size w w' := by
  unfold Pc.val
  go_enter Try.func32, Try.ntmps32
  go_wp2
  exact bodyPost_ret (v := .agg #[.int .i64 x.f, .int .i64 x.m, .string x.t]) (by simp [results, Try.results32, go_sem]) rfl ⟨rfl, by
    first
      | exact (((Below.refl _ _).alloc (Nat.le_refl _) _).alloc (by simp) _).alloc (by simp; omega) _
      | (repeat (first | exact Below.refl _ _ | (refine Below.alloc ?_ (by simp <;> omega) _) | (refine Below.setCell ?_ (by simp <;> omega) _)))⟩
theorem eq1 (x : Pc) (w : World) :
    Calls Try.prog 35 #[x.val, x.val] w fun e w' => e = .returned (.bool true) ∧ Below w.heap.size w w' := by
  unfold Pc.val
  go_enter Try.func35, Try.ntmps35
  go_wp2
  go_ret
  exact ⟨rfl, ((Below.refl _ _).alloc (Nat.le_refl _) _).alloc (by simp) _⟩
def Pc.wt (x : Pc) : Nat := x.t.size
theorem sz_in (x : Pc) (left : Nat) (w : World) (h : x.wt ≤ left) (hl : left ≤ 1048576) :
    Calls Try.prog 27 #[x.val, .int .i64 (left : Int)] w fun e w' => e = .returned (.int .i64 ((left - x.wt : Nat) : Int)) ∧ Below w.heap.size w w' := by
  unfold Pc.wt at *
  have e1 : ((left - (x.t.size) : Nat) : Int) = (left : Int) - (x.t.size : Int) := by omega
  rw [e1]
  unfold Pc.val
  go_enter Try.func27, Try.ntmps27
  go_wp2
  go_ret
  exact ⟨rfl, (Below.refl _ _).alloc (Nat.le_refl _) _⟩
theorem sz_out (x : Pc) (left : Nat) (w : World) (h : left < x.wt) (ht : x.t.size ≤ 9223372036854775807) (hl : left ≤ 1048576) :
    Calls Try.prog 27 #[x.val, .int .i64 (left : Int)] w fun e w' => e = .returned (.int .i64 (-1)) ∧ Below w.heap.size w w' := by
  unfold Pc.wt at *
  unfold Pc.val
  go_enter Try.func27, Try.ntmps27
  go_wp2
  go_ret
  exact ⟨rfl, (Below.refl _ _).alloc (Nat.le_refl _) _⟩

set_option maxHeartbeats 1000000 in
theorem eqs_any (v u : Value) (l : List Pc) (w : World) (h : Ls w v l) (h2 : Ls w u l) (hn : l.length ≤ 1100000) :
    Calls Try.prog 26 #[v, u] w fun e w' => e = .returned (.bool true) ∧ Below w.heap.size w w' := by
  obtain ⟨a, cap, rfl, hc⟩ := h.at
  obtain ⟨a2, cap2, rfl, hc2⟩ := h2.at
  have HC : Hid (∀ j (h : j < l.length), ∃ b o, a = some ⟨b, o, none⟩ ∧ w.cell? ⟨b, o + j * 3, none⟩ = some (.int .i64 l[j].f) ∧ w.cell? ⟨b, o + j * 3 + 1, none⟩ = some (.int .i64 l[j].m) ∧ w.cell? ⟨b, o + j * 3 + 2, none⟩ = some (.string l[j].t)) := hc
  have HC2 : Hid (∀ j (h : j < l.length), ∃ b o, a2 = some ⟨b, o, none⟩ ∧ w.cell? ⟨b, o + j * 3, none⟩ = some (.int .i64 l[j].f) ∧ w.cell? ⟨b, o + j * 3 + 1, none⟩ = some (.int .i64 l[j].m) ∧ w.cell? ⟨b, o + j * 3 + 2, none⟩ = some (.string l[j].t)) := hc2
  clear hc hc2 h h2
  go_enter Try.func26, Try.ntmps26
  go_wp2
  go_loopw [5] (fun i wr => ∃ k : Nat, k ≤ l.length ∧ i = .int .i64 k ∧ Below w.heap.size w wr) (fun i _ => l.length - (intOf i).toNat)
  case atStart => exact ⟨0, by omega, rfl, Below.refl _ _⟩
  case round =>
    obtain ⟨k, hk, rfl, hbel⟩ := hrel
    by_cases hlt : k < l.length
    · obtain ⟨b, o, rfl, d0, d1, d2⟩ := HC.out k hlt
      obtain ⟨b2, o2, rfl, e0, e1, e2⟩ := HC2.out k hlt
      have c0 : wr.cell? ⟨b, o + k * 3, none⟩ = _ := (hbel.cell (World.block_lt_of_cell? w _ d0)).trans d0
      have c1 : wr.cell? ⟨b, o + k * 3 + 1, none⟩ = _ := (hbel.cell (World.block_lt_of_cell? w _ d1)).trans d1
      have c2 : wr.cell? ⟨b, o + k * 3 + 2, none⟩ = _ := (hbel.cell (World.block_lt_of_cell? w _ d2)).trans d2
      have q0 : wr.cell? ⟨b2, o2 + k * 3, none⟩ = _ := (hbel.cell (World.block_lt_of_cell? w _ e0)).trans e0
      have q1 : wr.cell? ⟨b2, o2 + k * 3 + 1, none⟩ = _ := (hbel.cell (World.block_lt_of_cell? w _ e1)).trans e1
      have q2 : wr.cell? ⟨b2, o2 + k * 3 + 2, none⟩ = _ := (hbel.cell (World.block_lt_of_cell? w _ e2)).trans e2
      have p1 : (k : Int) < (l.length : Int) := by omega
      have HE : Hid (∀ W, Calls Try.prog 35 #[.agg #[.int .i64 l[k].f, .int .i64 l[k].m, .string l[k].t], .agg #[.int .i64 l[k].f, .int .i64 l[k].m, .string l[k].t]] W fun e w' => e = .returned (.bool true) ∧ Below W.heap.size W w') := fun W => eq1 l[k] W
      generalize l[k].f = y0 at *
      generalize l[k].m = y1 at *
      generalize l[k].t = y2 at *
      have HB : Hid (Below w.heap.size w wr) := hbel
      clear d0 d1 d2 e0 e1 e2 hbel
      go_wp2_with fail
      go_region_with (go_at_call 35; refine (HE.out _).mono ?_; rintro e w1 ⟨rfl, hb1⟩)
      all_goals (have HB1 : Hid (Below w.heap.size w w1) := HB.out.drew.trans (hb1.mono HB.out.size))
      all_goals clear hb1
      all_goals go_wp2
      all_goals go_roundw
      all_goals first
        | exact ⟨k + 1, by omega, by go_num, HB1.out⟩
        | (simp [intOf]; omega)
    · have e : k = l.length := by omega
      subst e
      go_wp2
      go_ret
      exact ⟨rfl, hbel⟩

theorem infoT : ∃ z bytes, (Try.prog.info? 42).map (fun i => (i.zero, i.size, i.bytes)) = some (some z, 3, bytes) ∧ z.cells.size = 3 ∧ bytes ≤ 256 :=
  ⟨.agg #[.int .i64 0, .int .i64 0, .string ByteArray.empty], 32, by kernel_rfl, rfl, by omega⟩
theorem kindT : Kind 34 42 3 := ⟨by kernel_rfl, infoT, by omega⟩
theorem make_any (m : Nat) (hm : m ≤ 2000000) (w : World) :
    ∃ W1, (Instr.makeSlice 34 (.int .i64 (m : Int)) (.int .i64 (m : Int))).run Try.prog w = .ok (.slice (some ⟨w.heap.size, 0, none⟩) m m) W1 ∧ LsAt W1 w.heap.size 0 (List.replicate m Pc.zero) ∧ Below w.heap.size w W1 ∧ W1.heap.size = w.heap.size + 1 := by
  obtain ⟨W1, h1, h2, h3, h4⟩ := make_rows (.agg #[.int .i64 0, .int .i64 0, .string ByteArray.empty]) 32 (t := 34) (T := 42) (by kernel_rfl) (by kernel_rfl) rfl (by omega) m hm w
  refine ⟨W1, h1, ?_, h3, h4⟩
  unfold LsAt
  rw [List.map_replicate]
  exact h2
/-- A list of which the first k are laid. -/
def copied (l : List Pc) (k : Nat) : List Pc := l.take k ++ List.replicate (l.length - k) Pc.zero
theorem length_copied (l : List Pc) (k : Nat) (h : k ≤ l.length) : (copied l k).length = l.length := by simp [copied]; omega
theorem copied_start (l : List Pc) : copied l 0 = List.replicate l.length Pc.zero := by simp [copied]
theorem copied_end (l : List Pc) : copied l l.length = l := by simp [copied]
theorem copied_set (l : List Pc) (k : Nat) (hk : k < l.length) : (copied l k).set k l[k] = copied l (k + 1) := by
  have hl : (l.take k).length = k := by simp; omega
  unfold copied
  rw [List.set_append_right _ _ (by omega), hl, Nat.sub_self, show l.length - k = (l.length - (k + 1)) + 1 by omega, List.replicate_succ, List.set_cons_zero, List.take_succ_eq_append_getElem hk]
  simp only [List.append_assoc, List.singleton_append]

set_option maxHeartbeats 1000000 in
theorem tos_any (v : Value) (l : List Pc) (w : World) (h : Ls w v l) (hn : l.length ≤ 1100000) :
    Calls Try.prog 22 #[v] w fun e w' => e = .returned (.slice (some ⟨w.heap.size, 0, none⟩) l.length l.length) ∧ LsAt w' w.heap.size 0 l ∧ Below w.heap.size w w' ∧ w.heap.size < w'.heap.size := by
  obtain ⟨a, cap, rfl, hc⟩ := h.at
  have HC : Hid (∀ j (h : j < l.length), ∃ b o, a = some ⟨b, o, none⟩ ∧ w.cell? ⟨b, o + j * 3, none⟩ = some (.int .i64 l[j].f) ∧ w.cell? ⟨b, o + j * 3 + 1, none⟩ = some (.int .i64 l[j].m) ∧ w.cell? ⟨b, o + j * 3 + 2, none⟩ = some (.string l[j].t)) := hc
  obtain ⟨W1, hmk, hr1, hb1, hz1⟩ := make_any l.length (by omega) w
  have HR : Hid _ := hr1
  have HB : Hid (Below w.heap.size w W1) := hb1
  have HZ : Hid (w.heap.size < W1.heap.size) := by unfold Hid; omega
  clear hc hr1 hb1 hz1 h
  go_enter Try.func22, Try.ntmps22
  go_wp2
  go_loopw [4] (fun i wr => ∃ k : Nat, k ≤ l.length ∧ i = .int .i64 k ∧ LsAt wr w.heap.size 0 (copied l k) ∧ Below w.heap.size w wr ∧ w.heap.size < wr.heap.size) (fun i _ => l.length - (intOf i).toNat)
  case atStart => exact ⟨0, by omega, rfl, by rw [copied_start]; exact HR.out, HB.out, HZ.out⟩
  case round =>
    clear HR HB HZ
    obtain ⟨k, hk, rfl, hrow, hbel, hsz⟩ := hrel
    by_cases hlt : k < l.length
    · obtain ⟨b, o, rfl, d0, d1, d2⟩ := HC.out k hlt
      have c0 : wr.cell? ⟨b, o + k * 3, none⟩ = _ := (hbel.cell (World.block_lt_of_cell? w _ d0)).trans d0
      have c1 : wr.cell? ⟨b, o + k * 3 + 1, none⟩ = _ := (hbel.cell (World.block_lt_of_cell? w _ d1)).trans d1
      have c2 : wr.cell? ⟨b, o + k * 3 + 2, none⟩ = _ := (hbel.cell (World.block_lt_of_cell? w _ d2)).trans d2
      have hlp := length_copied l k hk
      obtain ⟨⟨e0, e1, e2⟩, f0, f1, f2⟩ := hrow.at k (by omega)
      simp only [Nat.zero_add] at e0 e1 e2 f0 f1 f2
      have HROW : Hid (LsAt wr w.heap.size 0 (copied l k)) := hrow
      have HE : Hid ((copied l k).set k ⟨l[k].f, l[k].m, l[k].t⟩ = copied l (k + 1)) := copied_set l k hlt
      have p1 : (k : Int) < (l.length : Int) := by omega
      have HT : Hid (∀ W, Calls Try.prog 32 #[.agg #[.int .i64 l[k].f, .int .i64 l[k].m, .string l[k].t]] W fun e w' => e = .returned (.agg #[.int .i64 l[k].f, .int .i64 l[k].m, .string l[k].t]) ∧ Below W.heap.size W w') := fun W => to1 l[k] W
      generalize l[k].f = y0 at *
      generalize l[k].m = y1 at *
      generalize l[k].t = y2 at *
      generalize (copied l k)[k].f = y0z at *
      generalize (copied l k)[k].m = y1z at *
      generalize (copied l k)[k].t = y2z at *
      clear d0 d1 d2 hrow
      go_wp2_with (go_at_call 32; refine (HT.out _).mono ?_; rintro e w1 ⟨rfl, hb1⟩; obtain ⟨hcc, hff⟩ := bcell hb1)
      have HSN : Hid (LsAt (((w1.setCell ⟨w.heap.size, k * 3, none⟩ (.int .i64 y0)).setCell ⟨w.heap.size, k * 3 + 1, none⟩ (.int .i64 y1)).setCell ⟨w.heap.size, k * 3 + 2, none⟩ (.string y2)) w.heap.size 0 (copied l (k + 1))) := by
        unfold Hid
        rw [← HE.out]
        have := (LsAt.below HROW.out hb1).set (j := k) (by omega) y0 y1 y2
        simpa using this
      have HB1 : Hid (Below w.heap.size w w1) := hbel.trans (hb1.mono hbel.size)
      have hz1 := hb1.size
      clear hcc hff
      go_roundw
      case rel => exact ⟨k + 1, by omega, by go_num, HSN.out, (((HB1.out.setCell (p := ⟨w.heap.size, k * 3, none⟩) (Nat.le_refl _) _).setCell (p := ⟨w.heap.size, k * 3 + 1, none⟩) (Nat.le_refl _) _).setCell (p := ⟨w.heap.size, k * 3 + 2, none⟩) (Nat.le_refl _) _), by simp; omega⟩
      case measure => simp [intOf]; omega
    · have e : k = l.length := by omega
      subst e
      rw [copied_end] at hrow
      have HR : Hid _ := hrow
      have HB : Hid (Below w.heap.size w wr) := hbel
      have HSZ : Hid (w.heap.size < wr.heap.size) := hsz
      clear hrow hbel hsz
      go_wp2
      go_ret
      exact ⟨rfl, HR.out, HB.out, HSZ.out⟩

/-- how many bytes they hold -/
def wts (l : List Pc) : Nat := (l.map Pc.wt).sum
theorem wts_take (l : List Pc) (k : Nat) (h : k < l.length) : wts (l.take (k + 1)) = wts (l.take k) + l[k].wt := by
  unfold wts; rw [List.take_succ_eq_append_getElem h, List.map_append, List.sum_append]; simp only [List.map_cons, List.map_nil, List.sum_cons, List.sum_nil, Nat.add_zero]
theorem wts_le (l : List Pc) (k : Nat) : wts (l.take k) ≤ wts l := by
  have e : wts l = wts (l.take k) + wts (l.drop k) := by
    unfold wts
    rw [← List.sum_append, ← List.map_append, List.take_append_drop]
  omega
def okSz (x : Pc) : Prop := x.t.size ≤ maxLen
set_option maxHeartbeats 1000000 in
theorem szs_any (v : Value) (l : List Pc) (left : Nat) (w : World) (h : Ls w v l) (hn : l.length ≤ maxLen) (hl : left ≤ 1048576) (hs : ∀ y ∈ l, okSz y) :
    Calls Try.prog 18 #[v, .int .i64 (left : Int)] w fun e w' => Below w.heap.size w w' ∧ ((∃ r : Nat, e = .returned (.int .i64 (r : Int)) ∧ r + l.length + wts l = left) ∨ (e = .returned (.int .i64 (-1)) ∧ left < l.length + wts l)) := by
  obtain ⟨a, cap, rfl, hc⟩ := h.at
  have HC : Hid (∀ j (h : j < l.length), ∃ b o, a = some ⟨b, o, none⟩ ∧ w.cell? ⟨b, o + j * 3, none⟩ = some (.int .i64 l[j].f) ∧ w.cell? ⟨b, o + j * 3 + 1, none⟩ = some (.int .i64 l[j].m) ∧ w.cell? ⟨b, o + j * 3 + 2, none⟩ = some (.string l[j].t)) := hc
  have HSS : Hid (∀ y ∈ l, okSz y) := hs
  unfold maxLen at hn
  clear hc hs h
  by_cases h0 : left < l.length
  · go_enter Try.func18, Try.ntmps18
    go_wp2
    go_ret
    exact ⟨Below.refl _ _, .inr ⟨rfl, by omega⟩⟩
  · go_enter Try.func18, Try.ntmps18
    go_wp2
    go_loopw [1, 5] (fun r i wr => Below w.heap.size w wr ∧ ∃ k r' : Nat, k ≤ l.length ∧ i = .int .i64 k ∧ r = .int .i64 (r' : Int) ∧ r' + l.length + wts (l.take k) = left) (fun _ i _ => l.length - (intOf i).toNat)
    case atStart => exact ⟨Below.refl _ _, 0, left - l.length, by omega, rfl, by congr 1; omega, by simp [wts]; omega⟩
    case round =>
      obtain ⟨hbel, k, r', hk, rfl, rfl, hr⟩ := hrel
      by_cases hlt : k < l.length
      · obtain ⟨b, o, rfl, d0, d1, d2⟩ := HC.out k hlt
        have c0 : wr.cell? ⟨b, o + k * 3, none⟩ = _ := (hbel.cell (World.block_lt_of_cell? w _ d0)).trans d0
        have c1 : wr.cell? ⟨b, o + k * 3 + 1, none⟩ = _ := (hbel.cell (World.block_lt_of_cell? w _ d1)).trans d1
        have c2 : wr.cell? ⟨b, o + k * 3 + 2, none⟩ = _ := (hbel.cell (World.block_lt_of_cell? w _ d2)).trans d2
        have p1 : (k : Int) < (l.length : Int) := by omega
        have hw := wts_take l k hlt
        have hle := wts_le l (k + 1)
        have hok := HSS.out _ (List.getElem_mem hlt)
        unfold okSz maxLen at hok
        have KO : Hid (r' < l[k].wt → ∀ W, Calls Try.prog 27 #[.agg #[.int .i64 l[k].f, .int .i64 l[k].m, .string l[k].t], .int .i64 (r' : Int)] W fun e w' => e = .returned (.int .i64 (-1)) ∧ Below W.heap.size W w') := fun h W => sz_out l[k] r' W h (by omega) (by omega)
        have KI : Hid (l[k].wt ≤ r' → ∀ W, Calls Try.prog 27 #[.agg #[.int .i64 l[k].f, .int .i64 l[k].m, .string l[k].t], .int .i64 (r' : Int)] W fun e w' => e = .returned (.int .i64 ((r' - l[k].wt : Nat) : Int)) ∧ Below W.heap.size W w') := fun h W => sz_in l[k] r' W h (by omega)
        generalize l[k].wt = wk at *
        generalize l[k].f = y0 at *
        generalize l[k].m = y1 at *
        generalize l[k].t = y2 at *
        have HB : Hid (Below w.heap.size w wr) := hbel
        clear d0 d1 d2 hbel hok
        by_cases hbig : r' < wk
        · have KO' : Hid _ := KO.out hbig
          clear KI KO
          go_wp2_with (go_at_call 27; refine (KO'.out _).mono ?_; rintro e w1 ⟨rfl, hb1⟩)
          go_ret
          exact ⟨HB.out.trans (hb1.mono HB.out.size), .inr ⟨rfl, by omega⟩⟩
        · have KI' : Hid _ := KI.out (by omega)
          obtain ⟨r2, hr2⟩ : ∃ r2, r2 = r' - wk := ⟨_, rfl⟩
          rw [← hr2] at KI'
          have HR2 : Hid (r2 = r' - wk) := hr2
          clear hr2 KO KI
          go_wp2_with (go_at_call 27; refine (KI'.out _).mono ?_; rintro e w1 ⟨rfl, hb1⟩)
          have hr3 := HR2.out
          go_roundw
          case rel => exact ⟨HB.out.trans (hb1.mono HB.out.size), k + 1, r2, by omega, by go_num, rfl, by omega⟩
          case measure => simp [intOf]; omega
      · have e : k = l.length := by omega
        subst e
        rw [List.take_length] at hr
        go_wp2
        go_ret
        exact ⟨hbel, .inl ⟨r', rfl, hr⟩⟩

def mk (k : Nat) : Pc := ⟨((k : Nat) : Int), ((k + 1 : Nat) : Int), markB (k + 2)⟩
def marks (k n : Nat) : List Pc := (List.range n).map fun i => mk (k + 3 * i)
theorem length_marks (k n : Nat) : (marks k n).length = n := by simp [marks]
def markTo (l : List Pc) (k i : Nat) : List Pc := marks k i ++ l.drop i
theorem length_markTo (l : List Pc) (k i : Nat) (h : i ≤ l.length) : (markTo l k i).length = l.length := by simp [markTo, length_marks]; omega
theorem markTo_start (l : List Pc) (k : Nat) : markTo l k 0 = l := by simp [markTo, marks]
theorem markTo_end (l : List Pc) (k : Nat) : markTo l k l.length = marks k l.length := by simp [markTo]
theorem markTo_set (l : List Pc) (k i : Nat) (h : i < l.length) : (markTo l k i).set i (mk (k + 3 * i)) = markTo l k (i + 1) := by
  have hl := length_marks k i
  unfold markTo
  rw [List.set_append_right _ _ (by omega), hl, Nat.sub_self, List.drop_eq_getElem_cons h, List.set_cons_zero]
  simp [marks, List.range_succ]
theorem grown_set {w W : World} {g q : Nat} (h : w.grownBy W (some g)) (v : Value) : w.grownBy (W.setCell ⟨g, q, none⟩ v) (some g) :=
  ⟨h.os, h.tape, h.output, by simpa using h.size, fun j hj hne => by rw [Below.heap_setCell _ _ _ j (by simpa using hne), h.block j hj hne]⟩
theorem grown_bel {w W W' : World} {g : Nat} (h : w.grownBy W (some g)) (hb : Below W.heap.size W W') : w.grownBy W' (some g) :=
  ⟨hb.os.trans h.os, hb.tape.trans h.tape, hb.output.trans h.output, Nat.le_trans h.size hb.size, fun q hq hne => by rw [hb.block q (Nat.lt_of_lt_of_le hq h.size), h.block q hq hne]⟩

/-- A list that may be written: in a row, or nil. -/
def Mk (W : World) (v : Value) (l : List Pc) : Prop := (∃ g c, v = .slice (some ⟨g, 0, none⟩) l.length c ∧ LsAt W g 0 l) ∨ (v = .slice none 0 0 ∧ l = [])
theorem Mk.ls {W : World} {v : Value} {l : List Pc} (h : Mk W v l) : Ls W v l := by
  rcases h with ⟨g, c, rfl, h⟩ | ⟨rfl, rfl⟩
  · exact h.ls c
  · exact ⟨none, 0, rfl, fun j hj => by simp at hj⟩
theorem Mk.below {W W' : World} {v : Value} {l : List Pc} (h : Mk W v l) (hb : Below W.heap.size W W') : Mk W' v l := by
  rcases h with ⟨g, c, rfl, h⟩ | h
  · exact .inl ⟨g, c, rfl, LsAt.below h hb⟩
  · exact .inr h
theorem Mk.grown {W W' : World} {v : Value} {l : List Pc} {r : Option Nat} (h : Mk W v l) (hg : W.grownBy W' r) (hr : ∀ g, v.ownBlock = some g → r ≠ some g) : Mk W' v l := by
  rcases h with ⟨g, c, rfl, h⟩ | h
  · exact .inl ⟨g, c, rfl, LsAt.grown h hg (hr g rfl)⟩
  · exact .inr h
theorem mk_own {W : World} {base : Nat} {T : TypeId} {v : Value} {l : List Pc} (h : OwnR W base T 3 v (l.map Pc.row)) : Mk W v l := by
  rcases h.mk with ⟨rfl, h2⟩ | ⟨g, c, rfl, h2, _⟩
  · exact .inr ⟨rfl, by simpa using h2⟩
  · exact .inl ⟨g, c, by rw [List.length_map], h2⟩
theorem Mk.form {W : World} {v : Value} {l : List Pc} (h : Mk W v l) : ∃ a c, v = .slice a l.length c := by
  rcases h with ⟨g, c, h, _⟩ | ⟨h, h2⟩
  · exact ⟨_, _, h⟩
  · exact ⟨_, _, by rw [h, h2]; rfl⟩
theorem grown_all {w w' : World} (h : Below w.heap.size w w') (r : Option Nat) : w.grownBy w' r := ⟨h.os, h.tape, h.output, h.size, fun q hq _ => h.block q hq⟩
end Go.Proofs.Ytfpgobkedfhakab.Del
