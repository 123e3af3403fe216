/- Lists of Op, each with a list of Step: read, compared, copied, sized by the laws' own functions. -/
import Derived.Test.YtfpgobkedfhakabHarnStep
namespace Go.Proofs.Ytfpgobkedfhakab.Ops
open Go.RowKit Go.Proofs.Ytfpgobkedfhakab.Mem Go.Proofs.Ytfpgobkedfhakab.Mark Go.Proofs.Ytfpgobkedfhakab.Harn Go.Proofs.Ytfpgobkedfhakab.Rws

structure Ox where
  k : Int
  p : ByteArray
  m : Int
  d : ByteArray
  s : List Del.Pc
def Ox.row (x : Ox) (vs : Value) : List Value := [.int .i64 x.k, .string x.p, .int .i64 x.m, .string x.d, vs]
/-- the value v is x -/
def OV (W : World) (v : Value) (x : Ox) : Prop := ∃ vs, v = .agg #[.int .i64 x.k, .string x.p, .int .i64 x.m, .string x.d, vs] ∧ Del.Ls W vs x.s
/-- the slice v reads as the list l -/
def Ls (W : World) (v : Value) (l : List Ox) : Prop := ∃ a cap, v = .slice a l.length cap ∧ ∀ j (h : j < l.length), ∃ b o vs, a = some ⟨b, o, none⟩ ∧ W.cell? ⟨b, o + j * 5, none⟩ = some (.int .i64 l[j].k) ∧ W.cell? ⟨b, o + j * 5 + 1, none⟩ = some (.string l[j].p) ∧ W.cell? ⟨b, o + j * 5 + 2, none⟩ = some (.int .i64 l[j].m) ∧ W.cell? ⟨b, o + j * 5 + 3, none⟩ = some (.string l[j].d) ∧ W.cell? ⟨b, o + j * 5 + 4, none⟩ = some vs ∧ Del.Ls W vs l[j].s
theorem OV.below {W W' : World} {v : Value} {x : Ox} (h : OV W v x) (hb : Below W.heap.size W W') : OV W' v x := by
  obtain ⟨vs, hv, hl⟩ := h
  exact ⟨vs, hv, hl.below hb⟩
theorem Ls.below {W W' : World} {v : Value} {l : List Ox} (h : Ls W v l) (hb : Below W.heap.size W W') : Ls W' v l := by
  obtain ⟨a, cap, hv, hc⟩ := h
  refine ⟨a, cap, hv, fun j hj => ?_⟩
  obtain ⟨b, o, vs, ha, d0, d1, d2, d3, d4, hl⟩ := hc j hj
  exact ⟨b, o, vs, ha, (hb.cell (World.block_lt_of_cell? W _ d0)).trans d0, (hb.cell (World.block_lt_of_cell? W _ d1)).trans d1, (hb.cell (World.block_lt_of_cell? W _ d2)).trans d2, (hb.cell (World.block_lt_of_cell? W _ d3)).trans d3, (hb.cell (World.block_lt_of_cell? W _ d4)).trans d4, hl.below hb⟩
set_option maxHeartbeats 1000000 in
theorem eq1 (v u : Value) (x : Ox) (w : World) (h : OV w v x) (h2 : OV w u x) (hn : x.s.length ≤ 1100000) :
    Calls Try.prog 17 #[v, u] w fun e w' => e = .returned (.bool true) ∧ Below w.heap.size w w' := by
  obtain ⟨vs, rfl, hl⟩ := h
  obtain ⟨us, rfl, hl2⟩ := h2
  have KE : Hid (∀ W, Del.Ls W vs x.s → Del.Ls W us x.s → Calls Try.prog 26 #[vs, us] W fun e w' => e = .returned (.bool true) ∧ Below W.heap.size W w') := fun W h1 h2 => Del.eqs_any vs us _ W h1 h2 hn
  have HL := hidR hl
  have HL2 := hidR hl2
  clear hl hl2 hn
  generalize x.k = y0 at *
  generalize x.p = y1 at *
  generalize x.m = y2 at *
  generalize x.d = y3 at *
  generalize x.s = l at *
  go_enter Try.func17, Try.ntmps17
  go_wp2_with fail
  have HB : Hid (Below w.heap.size w ((w.alloc (.cells #[.int .i64 y0, .string y1, .int .i64 y2, .string y3, vs] 36)).alloc (.cells #[.int .i64 y0, .string y1, .int .i64 y2, .string y3, us] 36))) := ((Below.refl _ _).alloc (Nat.le_refl _) _).alloc (by simp) _
  refine (KE.out _ (HL.out.below HB.out) (HL2.out.below HB.out)).mono ?_
  rintro e w1 ⟨rfl, hb1⟩
  go_wp2
  go_ret
  exact ⟨rfl, bstep HB.out hb1⟩
set_option maxHeartbeats 1000000 in
theorem eqs_any (v u : Value) (l : List Ox) (w : World) (h : Ls w v l) (h2 : Ls w u l) (hn : l.length ≤ 1100000) (hi : ∀ x ∈ l, x.s.length ≤ 1100000) :
    Calls Try.prog 8 #[v, u] w fun e w' => e = .returned (.bool true) ∧ Below w.heap.size w w' := by
  obtain ⟨a, cap, rfl, hc⟩ := h
  obtain ⟨a2, cap2, rfl, hc2⟩ := h2
  have HC := hidR hc
  have HC2 := hidR hc2
  have HI := hidR hi
  clear hc hc2 hi
  go_enter Try.func8, Try.ntmps8
  go_wp2
  go_loopw [5] (fun i wr => ∃ k : Nat, k ≤ l.length ∧ i = .int .i64 k ∧ Below w.heap.size w wr) (fun i _ => l.length - (intOf i).toNat)
  case atStart => exact ⟨0, by omega, rfl, Below.refl _ _⟩
  case round =>
    obtain ⟨k, hk, rfl, hbel⟩ := hrel
    by_cases hlt : k < l.length
    · obtain ⟨b, o, vs, rfl, d0, d1, d2, d3, d4, hl⟩ := HC.out k hlt
      obtain ⟨b2, o2, us, rfl, e0, e1, e2, e3, e4, hl2⟩ := HC2.out k hlt
      have c0 : wr.cell? ⟨b, o + k * 5, none⟩ = _ := (hbel.cell (World.block_lt_of_cell? w _ d0)).trans d0
      have c1 : wr.cell? ⟨b, o + k * 5 + 1, none⟩ = _ := (hbel.cell (World.block_lt_of_cell? w _ d1)).trans d1
      have c2 : wr.cell? ⟨b, o + k * 5 + 2, none⟩ = _ := (hbel.cell (World.block_lt_of_cell? w _ d2)).trans d2
      have c3 : wr.cell? ⟨b, o + k * 5 + 3, none⟩ = _ := (hbel.cell (World.block_lt_of_cell? w _ d3)).trans d3
      have c4 : wr.cell? ⟨b, o + k * 5 + 4, none⟩ = _ := (hbel.cell (World.block_lt_of_cell? w _ d4)).trans d4
      have q0 : wr.cell? ⟨b2, o2 + k * 5, none⟩ = _ := (hbel.cell (World.block_lt_of_cell? w _ e0)).trans e0
      have q1 : wr.cell? ⟨b2, o2 + k * 5 + 1, none⟩ = _ := (hbel.cell (World.block_lt_of_cell? w _ e1)).trans e1
      have q2 : wr.cell? ⟨b2, o2 + k * 5 + 2, none⟩ = _ := (hbel.cell (World.block_lt_of_cell? w _ e2)).trans e2
      have q3 : wr.cell? ⟨b2, o2 + k * 5 + 3, none⟩ = _ := (hbel.cell (World.block_lt_of_cell? w _ e3)).trans e3
      have q4 : wr.cell? ⟨b2, o2 + k * 5 + 4, none⟩ = _ := (hbel.cell (World.block_lt_of_cell? w _ e4)).trans e4
      have p1 : (k : Int) < (l.length : Int) := by omega
      have HE : Hid (∀ W, Below w.heap.size w W → Calls Try.prog 17 #[.agg #[.int .i64 l[k].k, .string l[k].p, .int .i64 l[k].m, .string l[k].d, vs], .agg #[.int .i64 l[k].k, .string l[k].p, .int .i64 l[k].m, .string l[k].d, us]] W fun e w' => e = .returned (.bool true) ∧ Below W.heap.size W w') := fun W hW => eq1 _ _ l[k] W ⟨vs, rfl, hl.below hW⟩ ⟨us, rfl, hl2.below hW⟩ (HI.out _ (List.getElem_mem hlt))
      generalize l[k].k = y0 at *
      generalize l[k].p = y1 at *
      generalize l[k].m = y2 at *
      generalize l[k].d = y3 at *
      have HB : Hid (Below w.heap.size w wr) := hbel
      clear d0 d1 d2 d3 d4 e0 e1 e2 e3 e4 hbel hl hl2
      go_wp2_with fail
      go_region_with (go_at_call 17; refine (HE.out _ HB.out.drew).mono ?_; rintro e w1 ⟨rfl, hb1⟩)
      all_goals (have HB1 : Hid (Below w.heap.size w w1) := HB.out.drew.trans (hb1.mono HB.out.size))
      all_goals clear hb1
      all_goals go_wp2
      all_goals go_roundw
      all_goals first
        | exact ⟨k + 1, by omega, by go_num, HB1.out⟩
        | (simp [intOf]; omega)
    · have e : k = l.length := by omega
      subst e
      go_wp2
      go_ret
      exact ⟨rfl, hbel⟩
set_option maxRecDepth 100000 in
set_option maxHeartbeats 1000000 in
theorem to1 (v : Value) (x : Ox) (w : World) (h : OV w v x) (hn : x.s.length ≤ 1100000) :
    Calls Try.prog 12 #[v] w fun e w' => ∃ g, e = .returned (.agg #[.int .i64 x.k, .string x.p, .int .i64 x.m, .string x.d, .slice (some ⟨g, 0, none⟩) x.s.length x.s.length]) ∧ Del.LsAt w' g 0 x.s ∧ w.heap.size ≤ g ∧ g < w'.heap.size ∧ Below w.heap.size w w' := by
  obtain ⟨vs, rfl, hl⟩ := h
  have KT : Hid (∀ W, Del.Ls W vs x.s → Calls Try.prog 22 #[vs] W fun e w' => e = .returned (.slice (some ⟨W.heap.size, 0, none⟩) x.s.length x.s.length) ∧ Del.LsAt w' W.heap.size 0 x.s ∧ Below W.heap.size W w' ∧ W.heap.size < w'.heap.size) := fun W h1 => Del.tos_any vs _ W h1 hn
  have HL := hidR hl
  clear hl hn
  generalize x.k = y0 at *
  generalize x.p = y1 at *
  generalize x.m = y2 at *
  generalize x.d = y3 at *
  generalize x.s = l at *
  go_enter Try.func12, Try.ntmps12
  go_wp2_with fail
  refine (KT.out _ (HL.out.below ((((Below.refl _ _).alloc (Nat.le_refl _) _).alloc (by simp) _).alloc (by simp; omega) _))).mono ?_
  rintro e w1 ⟨rfl, hr, hb1, hz1⟩
  obtain ⟨hcc, hff⟩ := bcell hb1
  simp at hcc hff hz1
  have HR := hidR hr
  have HB := hidR (Below.trans ((((Below.refl w.heap.size w).alloc (Nat.le_refl _) (.cells #[.int .i64 y0, .string y1, .int .i64 y2, .string y3, vs] 32)).alloc (by simp) (.cells #[.int .i64 0, .string ByteArray.empty, .int .i64 0, .string ByteArray.empty, .slice none 0 0] 36)).alloc (by simp; omega) (.cells #[.int .i64 y0, .string y1, .int .i64 y2, .string y3, .slice none 0 0] 36)) (hb1.mono (by simp; omega)))
  clear hb1 hr KT HL
  go_wp2
  exact bodyPost_ret (v := .agg #[.int .i64 y0, .string y1, .int .i64 y2, .string y3, .slice (some ⟨w.heap.size + 1 + 1 + 1, 0, none⟩) l.length l.length]) (by simp [results, Try.results12, go_sem, hcc] <;> omega) rfl ⟨_, rfl, by
    have := HR.out
    simp at this
    (repeat (refine Del.LsAt.other ?_ _ _ (by simp <;> omega))); exact this, by omega, by simp; omega, by
    (repeat (refine Below.setCell ?_ (by simp <;> omega) _)); exact HB.out⟩
theorem listN {α : Type} {xs : List α} (h : xs.length = 5) : ∃ u0 u1 u2 u3 u4, xs = [u0, u1, u2, u3, u4] := by
  match xs, h with
  | [u0, u1, u2, u3, u4], _ => exact ⟨u0, u1, u2, u3, u4, rfl⟩
theorem infoT : ∃ z bytes, (Try.prog.info? 36).map (fun i => (i.zero, i.size, i.bytes)) = some (some z, 5, bytes) ∧ z.cells.size = 5 ∧ bytes ≤ 256 :=
  ⟨.agg #[.int .i64 0, .string ByteArray.empty, .int .i64 0, .string ByteArray.empty, .slice none 0 0], 72, by kernel_rfl, rfl, by omega⟩
theorem kindT : Kind 25 36 5 := ⟨by kernel_rfl, infoT, by omega⟩
/-- the first k are laid in block g, each with a list of its own -/
def Laying (W : World) (g : Nat) (l : List Ox) (k : Nat) : Prop := ∃ rs : List (List Value), rs.length = l.length ∧ (∀ r ∈ rs, r.length = 5) ∧ RsAt W 5 g 0 rs ∧ ∀ j (h : j < l.length), j < k → ∃ gj, rs[j]? = some (l[j].row (.slice (some ⟨gj, 0, none⟩) l[j].s.length l[j].s.length)) ∧ g ≠ gj ∧ Del.LsAt W gj 0 l[j].s
theorem Laying.ls {W : World} {g : Nat} {l : List Ox} (h : Laying W g l l.length) : Ls W (.slice (some ⟨g, 0, none⟩) l.length l.length) l := by
  obtain ⟨rs, h1, h2, h3, h4⟩ := h
  refine ⟨_, _, rfl, fun j hj => ?_⟩
  obtain ⟨gj, e, _, hl⟩ := h4 j hj hj
  have hjr : j < rs.length := by omega
  rw [List.getElem?_eq_getElem hjr] at e
  have e := Option.some.inj e
  refine ⟨g, 0, .slice (some ⟨gj, 0, none⟩) l[j].s.length l[j].s.length, rfl, ?_, ?_, ?_, ?_, ?_, hl.ls _⟩
  · obtain ⟨⟨u, q1, q2⟩, _⟩ := h3 j hjr 0 (by omega)
    rw [e] at q1
    simp [Ox.row] at q1
    subst q1; simpa using q2
  · obtain ⟨⟨u, q1, q2⟩, _⟩ := h3 j hjr 1 (by omega)
    rw [e] at q1
    simp [Ox.row] at q1
    subst q1; simpa using q2
  · obtain ⟨⟨u, q1, q2⟩, _⟩ := h3 j hjr 2 (by omega)
    rw [e] at q1
    simp [Ox.row] at q1
    subst q1; simpa using q2
  · obtain ⟨⟨u, q1, q2⟩, _⟩ := h3 j hjr 3 (by omega)
    rw [e] at q1
    simp [Ox.row] at q1
    subst q1; simpa using q2
  · obtain ⟨⟨u, q1, q2⟩, _⟩ := h3 j hjr 4 (by omega)
    rw [e] at q1
    simp [Ox.row] at q1
    subst q1; simpa using q2
theorem make_any (q : Nat) (hq : q ≤ 2000000) (w : World) (l : List Ox) (hl : l.length = q) :
    ∃ W1, (Instr.makeSlice 25 (.int .i64 (q : Int)) (.int .i64 (q : Int))).run Try.prog w = .ok (.slice (some ⟨w.heap.size, 0, none⟩) q q) W1 ∧ Laying W1 w.heap.size l 0 ∧ Below w.heap.size w W1 ∧ W1.heap.size = w.heap.size + 1 := by
  obtain ⟨W1, h1, h2, h3, h4⟩ := make_rows (.agg #[.int .i64 0, .string ByteArray.empty, .int .i64 0, .string ByteArray.empty, .slice none 0 0]) 72 (t := 25) (T := 36) (by kernel_rfl) (by kernel_rfl) rfl (by omega) q hq w
  exact ⟨W1, h1, ⟨_, by simp [hl], fun r hr => by rw [(List.mem_replicate.1 hr).2]; rfl, h2, fun j _ h => by omega⟩, h3, h4⟩
set_option maxRecDepth 100000 in
set_option maxHeartbeats 1000000 in
theorem tos_any (v : Value) (l : List Ox) (w : World) (h : Ls w v l) (hn : l.length ≤ 1100000) (hi : ∀ x ∈ l, x.s.length ≤ 1100000) :
    Calls Try.prog 6 #[v] w fun e w' => e = .returned (.slice (some ⟨w.heap.size, 0, none⟩) l.length l.length) ∧ Ls w' (.slice (some ⟨w.heap.size, 0, none⟩) l.length l.length) l ∧ Below w.heap.size w w' := by
  obtain ⟨a, cap, rfl, hc⟩ := h
  have HC := hidR hc
  have HI := hidR hi
  obtain ⟨W1, hmk, hr1, hb1, hz1⟩ := make_any l.length (by omega) w l rfl
  have HR : Hid _ := hr1
  have HB : Hid (Below w.heap.size w W1) := hb1
  have HZ : Hid (w.heap.size < W1.heap.size) := by unfold Hid; omega
  clear hc hr1 hb1 hz1 hi
  go_enter Try.func6, Try.ntmps6
  go_wp2
  go_loopw [4] (fun i wr => ∃ k : Nat, k ≤ l.length ∧ i = .int .i64 k ∧ Hid (Laying wr w.heap.size l k) ∧ Below w.heap.size w wr ∧ w.heap.size < wr.heap.size) (fun i _ => l.length - (intOf i).toNat)
  case atStart => exact ⟨0, by omega, rfl, HR, HB.out, HZ.out⟩
  case round =>
    clear HR HB HZ
    obtain ⟨k, hk, rfl, HROW, hbel, hsz⟩ := hrel
    by_cases hlt : k < l.length
    · obtain ⟨b, o, vs, rfl, d0, d1, d2, d3, d4, hl⟩ := HC.out k hlt
      have c0 : wr.cell? ⟨b, o + k * 5, none⟩ = _ := (hbel.cell (World.block_lt_of_cell? w _ d0)).trans d0
      have c1 : wr.cell? ⟨b, o + k * 5 + 1, none⟩ = _ := (hbel.cell (World.block_lt_of_cell? w _ d1)).trans d1
      have c2 : wr.cell? ⟨b, o + k * 5 + 2, none⟩ = _ := (hbel.cell (World.block_lt_of_cell? w _ d2)).trans d2
      have c3 : wr.cell? ⟨b, o + k * 5 + 3, none⟩ = _ := (hbel.cell (World.block_lt_of_cell? w _ d3)).trans d3
      have c4 : wr.cell? ⟨b, o + k * 5 + 4, none⟩ = _ := (hbel.cell (World.block_lt_of_cell? w _ d4)).trans d4
      obtain ⟨rs, r1, r2, r3, r4⟩ := HROW.out
      have hkr : k < rs.length := by omega
      obtain ⟨u0, u1, u2, u3, u4, hrk⟩ := listN (r2 _ (List.getElem_mem hkr))
      have e0 : wr.cell? ⟨w.heap.size, k * 5, none⟩ = some u0 ∧ wr.frozen? ⟨w.heap.size, k * 5, none⟩ = false := by
        obtain ⟨⟨u, q1, q2⟩, q3⟩ := r3 k hkr 0 (by omega)
        rw [hrk] at q1
        simp at q1
        subst q1
        exact ⟨by simpa using q2, by simpa using q3⟩
      have e1 : wr.cell? ⟨w.heap.size, k * 5 + 1, none⟩ = some u1 ∧ wr.frozen? ⟨w.heap.size, k * 5 + 1, none⟩ = false := by
        obtain ⟨⟨u, q1, q2⟩, q3⟩ := r3 k hkr 1 (by omega)
        rw [hrk] at q1
        simp at q1
        subst q1
        exact ⟨by simpa using q2, by simpa using q3⟩
      have e2 : wr.cell? ⟨w.heap.size, k * 5 + 2, none⟩ = some u2 ∧ wr.frozen? ⟨w.heap.size, k * 5 + 2, none⟩ = false := by
        obtain ⟨⟨u, q1, q2⟩, q3⟩ := r3 k hkr 2 (by omega)
        rw [hrk] at q1
        simp at q1
        subst q1
        exact ⟨by simpa using q2, by simpa using q3⟩
      have e3 : wr.cell? ⟨w.heap.size, k * 5 + 3, none⟩ = some u3 ∧ wr.frozen? ⟨w.heap.size, k * 5 + 3, none⟩ = false := by
        obtain ⟨⟨u, q1, q2⟩, q3⟩ := r3 k hkr 3 (by omega)
        rw [hrk] at q1
        simp at q1
        subst q1
        exact ⟨by simpa using q2, by simpa using q3⟩
      have e4 : wr.cell? ⟨w.heap.size, k * 5 + 4, none⟩ = some u4 ∧ wr.frozen? ⟨w.heap.size, k * 5 + 4, none⟩ = false := by
        obtain ⟨⟨u, q1, q2⟩, q3⟩ := r3 k hkr 4 (by omega)
        rw [hrk] at q1
        simp at q1
        subst q1
        exact ⟨by simpa using q2, by simpa using q3⟩
      obtain ⟨e0, f0⟩ := e0
      obtain ⟨e1, f1⟩ := e1
      obtain ⟨e2, f2⟩ := e2
      obtain ⟨e3, f3⟩ := e3
      obtain ⟨e4, f4⟩ := e4
      have HRS := hidR r3
      have HR4 := hidR r4
      have HR1 := hidR r1
      have HR2 := hidR r2
      have HRK := hidR hrk
      have p1 : (k : Int) < (l.length : Int) := by omega
      have HT : Hid (∀ W, Below w.heap.size w W → Calls Try.prog 12 #[.agg #[.int .i64 l[k].k, .string l[k].p, .int .i64 l[k].m, .string l[k].d, vs]] W fun e w' => ∃ g, e = .returned (.agg #[.int .i64 l[k].k, .string l[k].p, .int .i64 l[k].m, .string l[k].d, .slice (some ⟨g, 0, none⟩) l[k].s.length l[k].s.length]) ∧ Del.LsAt w' g 0 l[k].s ∧ W.heap.size ≤ g ∧ g < w'.heap.size ∧ Below W.heap.size W w') := fun W hW => to1 _ l[k] W ⟨vs, rfl, hl.below hW⟩ (HI.out _ (List.getElem_mem hlt))
      have HX : Hid (∀ vs, l[k].row vs = [.int .i64 l[k].k, .string l[k].p, .int .i64 l[k].m, .string l[k].d, vs]) := fun vs => rfl
      generalize l[k].k = y0 at *
      generalize l[k].p = y1 at *
      generalize l[k].m = y2 at *
      generalize l[k].d = y3 at *
      generalize hli : l[k].s = li at *
      have HLI := hidR hli
      generalize hln : li.length = ln at *
      have HLN := hidR hln
      have HB : Hid (Below w.heap.size w wr) := hbel
      clear d0 d1 d2 d3 d4 hbel hl r1 r2 r3 r4 hrk hli hln HROW
      go_wp2_with (go_at_call 12; refine (HT.out _ HB.out).mono ?_; rintro e w1 ⟨gi, rfl, hlw, hg1, hg2, hb1⟩; obtain ⟨hcc, hff⟩ := bcell hb1)
      have HSN : Hid (Laying (((((w1.setCell ⟨w.heap.size, k * 5, none⟩ (.int .i64 y0)).setCell ⟨w.heap.size, k * 5 + 1, none⟩ (.string y1)).setCell ⟨w.heap.size, k * 5 + 2, none⟩ (.int .i64 y2)).setCell ⟨w.heap.size, k * 5 + 3, none⟩ (.string y3)).setCell ⟨w.heap.size, k * 5 + 4, none⟩ (.slice (some ⟨gi, 0, none⟩) ln ln)) w.heap.size l (k + 1)) := by
        have q0 := RsAt.below HRS.out hb1
        have q1 := RsAt.set q0 (j := k) (i := 0) (by simpa using hkr) (by omega) (.int .i64 y0)
        have q2 := RsAt.set q1 (j := k) (i := 1) (by simpa using hkr) (by omega) (.string y1)
        have q3 := RsAt.set q2 (j := k) (i := 2) (by simpa using hkr) (by omega) (.int .i64 y2)
        have q4 := RsAt.set q3 (j := k) (i := 3) (by simpa using hkr) (by omega) (.string y3)
        have q5 := RsAt.set q4 (j := k) (i := 4) (by simpa using hkr) (by omega) (.slice (some ⟨gi, 0, none⟩) ln ln)
        simp only [Nat.zero_add, Nat.add_zero, List.getElem_set_self, List.set_set, HRK.out, List.set_cons_zero, List.set_cons_succ] at q5
        refine ⟨_, by rw [List.length_set]; exact HR1.out, fun r hr => ?_, q5, fun j hj hjk => ?_⟩
        · rcases List.mem_or_eq_of_mem_set hr with h | h
          · exact HR2.out _ h
          · rw [h]; rfl
        · by_cases e : j = k
          · subst e
            refine ⟨gi, ?_, by omega, ?_⟩
            · rw [List.getElem?_set_self (by simpa using hkr), HX.out, HLI.out, HLN.out]
            · rw [HLI.out]
              (repeat (refine Del.LsAt.other ?_ _ _ (by simp <;> omega)))
              exact hlw
          · obtain ⟨gj, z1, z2, z3⟩ := HR4.out j hj (by omega)
            refine ⟨gj, ?_, z2, ?_⟩
            · rw [List.getElem?_set_ne (by omega)]; exact z1
            · have z4 := z3.below hb1
              (repeat (refine Del.LsAt.other ?_ _ _ (by simp <;> omega)))
              exact z4
      have HB1 : Hid (Below w.heap.size w w1) := HB.out.trans (hb1.mono HB.out.size)
      have hz1 := hb1.size
      clear hcc hff
      go_roundw
      case rel => exact ⟨k + 1, by omega, by go_num, HSN, (((((HB1.out.setCell (p := ⟨w.heap.size, k * 5, none⟩) (Nat.le_refl _) _).setCell (p := ⟨w.heap.size, k * 5 + 1, none⟩) (Nat.le_refl _) _).setCell (p := ⟨w.heap.size, k * 5 + 2, none⟩) (Nat.le_refl _) _).setCell (p := ⟨w.heap.size, k * 5 + 3, none⟩) (Nat.le_refl _) _).setCell (p := ⟨w.heap.size, k * 5 + 4, none⟩) (Nat.le_refl _) _), by simp; omega⟩
      case measure => simp [intOf]; omega
    · have e : k = l.length := by omega
      subst e
      have HR := hidR (HROW.out.ls)
      have HB : Hid (Below w.heap.size w wr) := hbel
      clear HROW hbel hsz
      go_wp2
      go_ret
      exact ⟨rfl, HR.out, HB.out⟩
def Ox.wt (x : Ox) : Nat := x.p.size + x.d.size + (x.s.length + Del.wts x.s)
def okSz (x : Ox) : Prop := x.p.size ≤ maxLen ∧ x.d.size ≤ maxLen ∧ x.s.length ≤ maxLen ∧ ∀ y ∈ x.s, Del.okSz y
set_option maxHeartbeats 1000000 in
theorem sz1 (v : Value) (x : Ox) (left : Nat) (w : World) (h : OV w v x) (hl : left ≤ 1048576) (hs : okSz x) :
    Calls Try.prog 9 #[v, .int .i64 (left : Int)] w fun e w' => Below w.heap.size w w' ∧ ((∃ r : Nat, e = .returned (.int .i64 (r : Int)) ∧ r + x.wt = left) ∨ (e = .returned (.int .i64 (-1)) ∧ left < x.wt)) := by
  obtain ⟨vs, rfl, hls⟩ := h
  have KZ : Hid (∀ (r : Nat) W, r ≤ 1048576 → Del.Ls W vs x.s → Calls Try.prog 18 #[vs, .int .i64 (r : Int)] W fun e w' => Below W.heap.size W w' ∧ ((∃ r2 : Nat, e = .returned (.int .i64 (r2 : Int)) ∧ r2 + x.s.length + Del.wts x.s = r) ∨ (e = .returned (.int .i64 (-1)) ∧ r < x.s.length + Del.wts x.s))) := fun r W hr hW => Del.szs_any vs _ r W hW hs.2.2.1 hr hs.2.2.2
  obtain ⟨s1, s3, _, _⟩ := hs
  unfold maxLen at s1 s3
  unfold Ox.wt
  have HL := hidR hls
  clear hls
  generalize x.k = y0 at *
  generalize x.p = y1 at *
  generalize x.m = y2 at *
  generalize x.d = y3 at *
  generalize x.s = li at *
  by_cases t0 : left < y1.size
  · go_enter Try.func9, Try.ntmps9
    go_wp2
    go_ret
    exact ⟨(Below.refl _ _).alloc (Nat.le_refl _) _, .inr ⟨rfl, by omega⟩⟩
  · skip
    by_cases t1 : left < y1.size + y3.size
    · go_enter Try.func9, Try.ntmps9
      go_wp2
      go_ret
      exact ⟨(Below.refl _ _).alloc (Nat.le_refl _) _, .inr ⟨rfl, by omega⟩⟩
    · skip
      obtain ⟨r, hr⟩ : ∃ r, r = left - (y1.size + y3.size) := ⟨_, rfl⟩
      have hri : (left : Int) - (y1.size : Int) - (y3.size : Int) = (r : Int) := by omega
      have KZ' := hidR (KZ.out r (w.alloc (.cells #[.int .i64 y0, .string y1, .int .i64 y2, .string y3, vs] 32)) (by omega) (HL.out.below ((Below.refl _ _).alloc (Nat.le_refl _) _)))
      have HB : Hid (Below w.heap.size w (w.alloc (.cells #[.int .i64 y0, .string y1, .int .i64 y2, .string y3, vs] 32))) := (Below.refl _ _).alloc (Nat.le_refl _) _
      have HRR := hidR hr
      clear KZ HL hr
      go_enter Try.func9, Try.ntmps9
      go_wp2_with fail
      refine (KZ'.out).mono ?_
      rintro e w1 ⟨hb1, hr⟩
      have HB1 := hidR (bstep HB.out hb1)
      clear hb1
      rcases hr with ⟨r2, rfl, h2⟩ | ⟨rfl, h2⟩
      · go_wp2
        go_ret
        exact ⟨HB1.out, .inl ⟨r2, rfl, by have := HRR.out; omega⟩⟩
      · go_wp2
        go_ret
        exact ⟨HB1.out, .inr ⟨rfl, by have := HRR.out; omega⟩⟩
def wts (l : List Ox) : Nat := (l.map Ox.wt).sum
theorem wts_take (l : List Ox) (k : Nat) (h : k < l.length) : wts (l.take (k + 1)) = wts (l.take k) + l[k].wt := by
  unfold wts; rw [List.take_succ_eq_append_getElem h, List.map_append, List.sum_append]; simp only [List.map_cons, List.map_nil, List.sum_cons, List.sum_nil, Nat.add_zero]
theorem wts_le (l : List Ox) (k : Nat) : wts (l.take k) ≤ wts l := by
  have e : wts l = wts (l.take k) + wts (l.drop k) := by
    unfold wts
    rw [← List.sum_append, ← List.map_append, List.take_append_drop]
  omega
theorem wt_len {l : List Ox} {x : Ox} (h : x ∈ l) : x.s.length ≤ wts l := by
  induction l with
  | nil => cases h
  | cons y l ih =>
    have e : wts (y :: l) = y.wt + wts l := by simp [wts]
    rcases List.mem_cons.1 h with rfl | h
    · rw [e]; unfold Ox.wt; omega
    · have := ih h; omega
set_option maxHeartbeats 1000000 in
theorem szs_any (v : Value) (l : List Ox) (left : Nat) (w : World) (h : Ls w v l) (hn : l.length ≤ maxLen) (hl : left ≤ 1048576) (hs : ∀ y ∈ l, okSz y) :
    Calls Try.prog 4 #[v, .int .i64 (left : Int)] w fun e w' => Below w.heap.size w w' ∧ ((∃ r : Nat, e = .returned (.int .i64 (r : Int)) ∧ r + l.length + wts l = left) ∨ (e = .returned (.int .i64 (-1)) ∧ left < l.length + wts l)) := by
  obtain ⟨a, cap, rfl, hc⟩ := h
  have HC := hidR hc
  have HSS := hidR hs
  unfold maxLen at hn
  clear hc hs
  by_cases h0 : left < l.length
  · go_enter Try.func4, Try.ntmps4
    go_wp2
    go_ret
    exact ⟨Below.refl _ _, .inr ⟨rfl, by omega⟩⟩
  · go_enter Try.func4, Try.ntmps4
    go_wp2
    go_loopw [1, 5] (fun r i wr => Below w.heap.size w wr ∧ ∃ k r' : Nat, k ≤ l.length ∧ i = .int .i64 k ∧ r = .int .i64 (r' : Int) ∧ r' + l.length + wts (l.take k) = left) (fun _ i _ => l.length - (intOf i).toNat)
    case atStart => exact ⟨Below.refl _ _, 0, left - l.length, by omega, rfl, by congr 1; omega, by simp [wts]; omega⟩
    case round =>
      obtain ⟨hbel, k, r', hk, rfl, rfl, hr⟩ := hrel
      by_cases hlt : k < l.length
      · obtain ⟨b, o, vs, rfl, d0, d1, d2, d3, d4, hls⟩ := HC.out k hlt
        have c0 : wr.cell? ⟨b, o + k * 5, none⟩ = _ := (hbel.cell (World.block_lt_of_cell? w _ d0)).trans d0
        have c1 : wr.cell? ⟨b, o + k * 5 + 1, none⟩ = _ := (hbel.cell (World.block_lt_of_cell? w _ d1)).trans d1
        have c2 : wr.cell? ⟨b, o + k * 5 + 2, none⟩ = _ := (hbel.cell (World.block_lt_of_cell? w _ d2)).trans d2
        have c3 : wr.cell? ⟨b, o + k * 5 + 3, none⟩ = _ := (hbel.cell (World.block_lt_of_cell? w _ d3)).trans d3
        have c4 : wr.cell? ⟨b, o + k * 5 + 4, none⟩ = _ := (hbel.cell (World.block_lt_of_cell? w _ d4)).trans d4
        have p1 : (k : Int) < (l.length : Int) := by omega
        have hw := wts_take l k hlt
        have hle := wts_le l (k + 1)
        have KS : Hid (∀ W, Below w.heap.size w W → Calls Try.prog 9 #[.agg #[.int .i64 l[k].k, .string l[k].p, .int .i64 l[k].m, .string l[k].d, vs], .int .i64 (r' : Int)] W fun e w' => Below W.heap.size W w' ∧ ((∃ r : Nat, e = .returned (.int .i64 (r : Int)) ∧ r + l[k].wt = r') ∨ (e = .returned (.int .i64 (-1)) ∧ r' < l[k].wt))) := fun W hW => sz1 _ l[k] r' W ⟨vs, rfl, hls.below hW⟩ (by omega) (HSS.out _ (List.getElem_mem hlt))
        generalize l[k].wt = wk at *
        generalize l[k].k = y0 at *
        generalize l[k].p = y1 at *
        generalize l[k].m = y2 at *
        generalize l[k].d = y3 at *
        have HB : Hid (Below w.heap.size w wr) := hbel
        clear d0 d1 d2 d3 d4 hbel hls
        go_wp2_with fail
        refine (KS.out _ HB.out).mono ?_
        rintro e w1 ⟨hb1, hr1⟩
        have HB1 := hidR (HB.out.trans (hb1.mono HB.out.size))
        clear hb1
        rcases hr1 with ⟨r2, rfl, h2⟩ | ⟨rfl, h2⟩
        · go_wp2
          go_roundw
          case rel => exact ⟨HB1.out, k + 1, r2, by omega, by go_num, rfl, by omega⟩
          case measure => simp [intOf]; omega
        · go_wp2
          go_ret
          exact ⟨HB1.out, .inr ⟨rfl, by omega⟩⟩
      · have e : k = l.length := by omega
        subst e
        rw [List.take_length] at hr
        go_wp2
        go_ret
        exact ⟨hbel, .inl ⟨r', rfl, hr⟩⟩
end Go.Proofs.Ytfpgobkedfhakab.Ops
