/- What the model's l03Copy answers. -/
import Derived.Test.YtnfidmjplhmblaaGreatDoorTextsE
namespace Go.Proofs.YtnfidmjplhmblaaGreatDoor.Disk
open Go.RowKit Go.Proofs.YtnfidmjplhmblaaGreatDoor.Mem Go.Proofs.YtnfidmjplhmblaaGreatDoor.Harn

theorem bA {w W : World} (h : Below w.heap.size w W) (o : Obj) : Below w.heap.size w (W.alloc o) := h.alloc h.size o
theorem bD {w W : World} (h : Below w.heap.size w W) : Below w.heap.size w W.drew := Sha.bel_drewN h 1
theorem bT {w W W1 : World} (h : Below w.heap.size w W) (hb : Below W.heap.size W W1) : Below w.heap.size w W1 := h.trans (hb.mono h.size)

theorem step_strs {w : World} {ops : Array Oper} {o : Oper} {a : Act} {K : Act → World → Prop} {Q : Exit → Act → World → Prop} {E : Prop} (hgd : o.guard = none) (s x : Operand)
    (ho : o.op = .call { callee := .builtin .append, args := #[s, x], argTypes := #[22, 22] }) (g0 : Nat) (v : Value) (ls : List ByteArray) (hs : a.eval s = .slice (some ⟨g0, 0, none⟩) 0 0) (hx : a.eval x = v)
    (h : Strs w v ls) (hn : ls.length ≤ 1100000) (hg0 : g0 < w.heap.size)
    (hK : ∀ g cap w', StrsAt w' g 0 ls → (g = g0 ∨ w.heap.size ≤ g) → g < w'.heap.size → Below w.heap.size w w' → K (a.put o.dst (.slice (some ⟨g, 0, none⟩) ls.length cap)) w') :
    if Region.wanted o (yielded ops a.tmps) = true then Oper.wp Tryz.prog o a w K Q else E := by
  obtain ⟨g, cap, w', hr, h1, h2, h3, h4⟩ := app_strs o.type g0 v ls w h hn hg0
  exact step_app hgd s x _ ho _ _ _ w' hs hx hr (hK g cap w' h1 h2 h3 h4)
theorem step_pends {w : World} {ops : Array Oper} {o : Oper} {a : Act} {K : Act → World → Prop} {Q : Exit → Act → World → Prop} {E : Prop} (hgd : o.guard = none) (s x : Operand)
    (ho : o.op = .call { callee := .builtin .append, args := #[s, x], argTypes := #[27, 27] }) (g0 : Nat) (v : Value) (lp : List (Int × ByteArray)) (hs : a.eval s = .slice (some ⟨g0, 0, none⟩) 0 0) (hx : a.eval x = v)
    (h : Pends w v lp) (hn : lp.length ≤ 1100000) (hg0 : g0 < w.heap.size)
    (hK : ∀ g cap w', PendsAt w' g 0 lp → (g = g0 ∨ w.heap.size ≤ g) → g < w'.heap.size → Below w.heap.size w w' → (cap = lp.length ∨ w'.ownsRow w.heap.size 76 2 (.slice (some ⟨g, 0, none⟩) lp.length cap) lp.length (pcells lp)) → K (a.put o.dst (.slice (some ⟨g, 0, none⟩) lp.length cap)) w') :
    if Region.wanted o (yielded ops a.tmps) = true then Oper.wp Tryz.prog o a w K Q else E := by
  obtain ⟨g, cap, w', hr, h1, h2, h3, h4, h5⟩ := app_pends o.type g0 v lp w h hn hg0
  exact step_app hgd s x _ ho _ _ _ w' hs hx hr (hK g cap w' h1 h2 h3 h4 h5)

theorem own_below {W W' : World} {base g n cap : Nat} {e : TypeId} {size : Nat} {xs : List Value} {B : Nat} (h : W.ownsRow base e size (.slice (some ⟨g, 0, none⟩) n cap) n xs) (hb : W'.heap[g]? = W.heap[g]?) (hB : B ≤ base) : W'.ownsRow B e size (.slice (some ⟨g, 0, none⟩) n cap) n xs := by
  obtain ⟨h1, h2⟩ := h
  refine ⟨h1, ?_⟩
  rcases h2 with ⟨h2, _⟩ | ⟨g', cap', cur, e1, e2, e3, e4⟩
  · cases h2
  · injection e1 with e1 _ e5
    injection e1 with e1
    injection e1 with e1 _ _
    subst e1 e5
    exact .inr ⟨g, cap, cur, rfl, by omega, hb.trans e3, e4⟩
theorem StrsAt.other {W : World} {g o : Nat} {l : List ByteArray} (h : StrsAt W g o l) {a : Addr} (ha : a.block ≠ g) (v : Value) : StrsAt (W.setCell a v) g o l := fun j hj => by
  obtain ⟨h1, h2⟩ := h j hj
  refine ⟨?_, by simpa using h2⟩
  rw [World.cell?_setCell_other _ _ _ _ (by intro e; exact ha (by rw [e]))]; exact h1

set_option maxRecDepth 100000 in
set_option maxHeartbeats 3200000 in
theorem copy_any (vs vp : Value) (ls : List ByteArray) (lp : List (Int × ByteArray)) (w : World) (hs : Strs w vs ls) (hp : Pends w vp lp) (h1 : ls.length ≤ 1100000) (h2 : lp.length ≤ 1100000) :
    Calls Tryz.prog 20 #[.agg #[vs, vp]] w fun e w' => ∃ gs gp cs cp, e = .returned (.agg #[.slice (some ⟨gs, 0, none⟩) ls.length cs, .slice (some ⟨gp, 0, none⟩) lp.length cp]) ∧ StrsAt w' gs 0 ls ∧ PendsAt w' gp 0 lp ∧ w.heap.size ≤ gs ∧ w.heap.size ≤ gp ∧ gs ≠ gp ∧ gs < w'.heap.size ∧ gp < w'.heap.size ∧ Below w.heap.size w w' ∧ (cp = lp.length ∨ w'.ownsRow w.heap.size 76 2 (.slice (some ⟨gp, 0, none⟩) lp.length cp) lp.length (pcells lp)) := by
  obtain ⟨W0, hW0⟩ : ∃ W0, W0 = (w.alloc (Obj.cells #[vs, vp] 29)).alloc (Obj.cells #[Value.slice none 0 0, Value.slice none 0 0] 29) := ⟨_, rfl⟩
  have HS : Hid (Strs w vs ls) := hs
  have HP : Hid (Pends w vp lp) := hp
  clear hs hp
  go_enter Tryz.func20, Tryz.ntmps20
  go_wp2_with fail
  rw [← hW0]
  have hz : W0.heap.size = w.heap.size + 2 := by rw [hW0]; simp
  have c0 : W0.cell? ⟨w.heap.size, 0, none⟩ = some vs := by rw [hW0]; exact Mem.cell_of_row (Sha.row_alloc (Sha.row_new w [vs, vp] 29) _) 0
  have c1 : W0.cell? ⟨w.heap.size, 1, none⟩ = some vp := by rw [hW0]; exact Mem.cell_of_row (Sha.row_alloc (Sha.row_new w [vs, vp] 29) _) 1
  have r1 : HasRow W0 (w.heap.size + 1) [Value.slice none 0 0, Value.slice none 0 0] 29 := by rw [hW0]; exact Sha.row_new_at (w.alloc _) [Value.slice none 0 0, Value.slice none 0 0] 29 _ (by simp)
  have c2 : W0.cell? ⟨w.heap.size + 1, 0, none⟩ = some (.slice none 0 0) := Mem.cell_of_row r1 0
  have c3 : W0.cell? ⟨w.heap.size + 1, 1, none⟩ = some (.slice none 0 0) := Mem.cell_of_row r1 1
  have f2 : W0.frozen? ⟨w.heap.size + 1, 0, none⟩ = false := Mem.frozen_of_row r1 0
  have f3 : W0.frozen? ⟨w.heap.size + 1, 1, none⟩ = false := Mem.frozen_of_row r1 1
  clear r1
  have HB0 : Hid (Below w.heap.size w W0) := by rw [hW0]; exact ((Below.refl _ _).alloc (Nat.le_refl _) _).alloc (by simp) _
  clear hW0
  go_region_held3 (fun w' => w'.cell? ⟨w.heap.size, 0, none⟩ = some vs ∧ w'.cell? ⟨w.heap.size, 1, none⟩ = some vp)
    (first
      | go_keep
      | (go_split_ands; refine ⟨?_, ?_⟩ <;> (rw [hb2.cell (by simp; omega)]; simp [*]))
      | (go_split_ands; refine ⟨?_, ?_⟩ <;> (rw [hb1.cell (by simp; omega)]; simp [*])))
    (first
      | (refine step_strs (by rfl) _ _ (by rfl) _ vs ls (by rfl) (by rfl) (Strs.below HS.out (by repeat' (first | exact HB0.out | apply bD | apply bA))) h1 (by first | omega | (simp <;> omega)) ?_; intro gs cs w1 hs1 hg1 hl1 hb1; have hq1 := hb1.size; simp at hq1; have hz1 : w.heap.size + 3 ≤ w1.heap.size := (by omega); have hB1 : Below W0.heap.size W0 w1 := (by refine bT ?_ hb1; repeat' (first | exact Below.refl _ _ | apply bD | apply bA)); have cw12 : w1.cell? ⟨w.heap.size + 1, 0, none⟩ = some (.slice none 0 0) := (hB1.cell (by first | omega | (simp <;> omega))).trans c2; have fw12 : w1.frozen? ⟨w.heap.size + 1, 0, none⟩ = false := (hB1.frozen (by first | omega | (simp <;> omega))).trans f2; have cw13 : w1.cell? ⟨w.heap.size + 1, 1, none⟩ = some (.slice none 0 0) := (hB1.cell (by first | omega | (simp <;> omega))).trans c3; have fw13 : w1.frozen? ⟨w.heap.size + 1, 1, none⟩ = false := (hB1.frozen (by first | omega | (simp <;> omega))).trans f3)
      | (refine step_pends (by rfl) _ _ (by rfl) _ vp lp (by rfl) (by rfl) (Pends.below HP.out (by repeat' (first | exact HB0.out | apply bD | apply bA | refine bT ?_ hb1))) h2 (by first | omega | (simp <;> omega)) ?_; intro gp cp w2 hs2 hg2 hl2 hb2 hw2; have HW2 : Hid _ := hw2; clear hw2; have hz2 : w.heap.size + 3 ≤ w2.heap.size := (by have hq := hb2.size; first | omega | (simp at hq; omega)); have hB2 : Below W0.heap.size W0 w2 := (by refine bT ?_ hb2; repeat' (first | exact hB1 | apply bD | apply bA)); have hB12 : Below w1.heap.size w1 w2 := (by refine bT ?_ hb2; repeat' (first | exact Below.refl _ _ | apply bD | apply bA)); have cw22 : w2.cell? ⟨w.heap.size + 1, 0, none⟩ = some (.slice none 0 0) := (hB2.cell (by first | omega | (simp <;> omega))).trans c2; have fw22 : w2.frozen? ⟨w.heap.size + 1, 0, none⟩ = false := (hB2.frozen (by first | omega | (simp <;> omega))).trans f2; have cw23 : w2.cell? ⟨w.heap.size + 1, 1, none⟩ = some (.slice none 0 0) := (hB2.cell (by first | omega | (simp <;> omega))).trans c3; have fw23 : w2.frozen? ⟨w.heap.size + 1, 1, none⟩ = false := (hB2.frozen (by first | omega | (simp <;> omega))).trans f3))
  all_goals go_wp2
  all_goals have hq2 := hB12.size
  all_goals try simp at hg1
  all_goals try simp at hg2
  all_goals have hgg : w.heap.size ≤ gs ∧ w.heap.size ≤ gp ∧ gs ≠ gp ∧ gs ≠ w.heap.size + 1 ∧ gp ≠ w.heap.size + 1 := by omega
  all_goals obtain ⟨k1, k2, k3, k4, k5⟩ := hgg
  all_goals refine bodyPost_ret (v := .agg #[.slice (some ⟨gs, 0, none⟩) ls.length cs, .slice (some ⟨gp, 0, none⟩) lp.length cp]) (by simp [results, Tryz.results20, go_sem, cw22, cw23]) rfl ⟨gs, gp, cs, cp, rfl, StrsAt.other (StrsAt.other (StrsAt.below hs1 hB12) (Ne.symm k4) _) (Ne.symm k4) _, PendsAt.other (PendsAt.other hs2 (Ne.symm k5) _) (Ne.symm k5) _, k1, k2, k3, by first | omega | (simp <;> omega), by first | omega | (simp <;> omega), ?_, ?_⟩
  all_goals first
    | exact (HW2.out.imp id fun h => own_below h ((Below.heap_setCell _ _ _ _ (by simpa using k5)).trans (Below.heap_setCell _ _ _ _ (by simpa using k5))) (by have := hb2.size; have := hB1.size; first | omega | (simp <;> omega)))
    | skip
  all_goals exact ((bT HB0.out hB2).setCell (p := ⟨w.heap.size + 1, 0, none⟩) (by simp) _).setCell (p := ⟨w.heap.size + 1, 1, none⟩) (by simp) _
end Go.Proofs.YtnfidmjplhmblaaGreatDoor.Disk
