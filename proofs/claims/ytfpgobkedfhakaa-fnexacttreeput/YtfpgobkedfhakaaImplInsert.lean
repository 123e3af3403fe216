/- What slices.Insert of one file answers. -/
import Derived.Test.YtfpgobkedfhakaaImplSearch
import Derived.Lib.AppendZerosOnto
import Derived.Lib.Overlaps
import Derived.Laws.IdiomCopy
namespace Go.Proofs.Ytfpgobkedfhakaa.Tre
open Go.RowKit Go.Proofs.Ytfpgobkedfhakaa.Mem Go.Proofs.Ytfpgobkedfhakaa.Gf Go.Proofs.Ytfpgobkedfhakaa.Harn Go.Proofs.Ytfpgobkedfhakaa.Mark

/-- What a copy of cells leaves. -/
structure Copied (w w' : World) (b o : Nat) (cs : List Value) : Prop where
  inn : ∀ j v, cs[j]? = some v → w'.cell? ⟨b, o + j, none⟩ = some v
  out : ∀ x : Addr, (x.block = b → x.spot = none → x.off < o ∨ o + cs.length ≤ x.off) → w'.cell? x = w.cell? x
  froz : ∀ x, w'.frozen? x = w.frozen? x
  some : ∀ x, (w.cell? x).isSome = true → (w'.cell? x).isSome = true
  below : ∀ B, B ≤ b → Below B w w'
theorem below_cells {B b : Nat} (hb : B ≤ b) {a : World} : ∀ (vs : List Value) (o : Nat) (w : World), Below B a w → Below B a (w.setCells b o vs)
  | [], _, _, h => h
  | v :: r, o, w, h => below_cells hb r (o + 1) (w.setCell ⟨b, o, none⟩ v) (h.setCell (p := ⟨b, o, none⟩) hb v)
theorem some_cells (b : Nat) : ∀ (vs : List Value) (o : Nat) (w : World) (x : Addr), (w.cell? x).isSome = true → ((w.setCells b o vs).cell? x).isSome = true
  | [], _, _, _, h => h
  | v :: r, o, w, x, h => by
    apply some_cells b r (o + 1) (w.setCell ⟨b, o, none⟩ v) x
    by_cases e : x = ⟨b, o, none⟩
    · subst e
      rw [World.cell?_setCell_same' w _ v h]; rfl
    · have e2 : (w.setCell ⟨b, o, none⟩ v).cell? x = w.cell? x := by
        apply World.cell?_setCell_other
        exact Ne.symm e
      rw [e2]; exact h
theorem copied (w : World) (b o : Nat) (cs : List Value) (h : ∀ j, j < cs.length → (w.cell? ⟨b, o + j, none⟩).isSome = true) : Copied w (w.setCells b o cs) b o cs where
  inn := fun j v hj => by
    obtain ⟨hl, he⟩ := List.getElem?_eq_some_iff.1 hj
    rw [World.cell?_setCells_in b cs o w h j hl, he]
  out := fun x hx => World.cell?_setCells_out b cs o w x hx
  froz := fun x => World.frozen?_setCells b cs o w x
  some := fun x hx => some_cells b cs o w x hx
  below := fun B hB => below_cells hB cs o w (Below.refl _ _)
theorem run_copy3 (w : World) (ty : TypeId) (b o dLen dCap : Nat) (a : Addr) (sLen sCap n : Nat) (cs : List Value) (hm : Nat.min sLen dLen = n) (hn : cs.length = n * 3)
    (hsrc : ∀ j v, cs[j]? = some v → w.cell? (a.add j) = some v) (hc : ∀ j, j < cs.length → (w.cell? ⟨b, o + j, none⟩).isSome = true) (hf : ∀ j, j < cs.length → w.frozen? ⟨b, o + j, none⟩ = false) (h1 : ∀ v ∈ cs, v.oneCell' = true) :
    (Builtin.copy_ #[29, 29] ty #[.slice (some ⟨b, o, none⟩) dLen dCap, .slice (some a) sLen sCap]).run Try.prog w = .ok (goInt n) (w.setCells b o cs) := by
  obtain ⟨i, hi0, hz0, hz1, hz2⟩ := info_parts infoFile
  have hl := run_loadCells_list (P := Try.prog) w a cs hsrc
  have hst := run_storeCells_cells (P := Try.prog) b o cs 0 w (by simpa using hc) (by simpa using hf) h1
  rw [hn] at hl
  simp [Builtin.copy_, run_underlying underFiles, Builtin.lenOf, Builtin.firstCells, sizeOf, typeInfo, hi0, hz1, hm, hl, hst]
theorem step_copy3 {ops : Array Oper} {o : Oper} {a : Act} {w : World} {K : Act → World → Prop} {Q : Exit → Act → World → Prop} {E : Prop}
    (hg : o.guard = none) (d x : Operand) (hop : o.op = Op.call { callee := Callee.builtin Builtin.copy, args := #[d, x], argTypes := #[29, 29] })
    (b p dLen dCap g q sLen sCap n : Nat) (cs : List Value) (hd : a.eval d = .slice (some ⟨b, p, none⟩) dLen dCap) (hx : a.eval x = .slice (some ⟨g, q, none⟩) sLen sCap) (hm : Nat.min sLen dLen = n) (hn : cs.length = n * 3)
    (hsrc : ∀ j v, cs[j]? = some v → w.cell? ⟨g, q + j, none⟩ = some v) (hc : ∀ j, j < cs.length → (w.cell? ⟨b, p + j, none⟩).isSome = true) (hf : ∀ j, j < cs.length → w.frozen? ⟨b, p + j, none⟩ = false) (h1 : ∀ v ∈ cs, v.oneCell' = true)
    (hK : ∀ w', Copied w w' b p cs → K (a.put o.dst (goInt n)) w') :
    if Region.wanted o (yielded ops a.tmps) = true then Oper.wp Try.prog o a w K Q else E := by
  have hw : Region.wanted o (yielded ops a.tmps) = true := by simp [Region.wanted, hg]
  rw [if_pos hw]
  have hr := run_copy3 w o.type b p dLen dCap ⟨g, q, none⟩ sLen sCap n cs hm hn (fun j v hj => by rw [addr_addo]; exact hsrc j v hj) hc hf h1
  unfold Oper.wp execOp
  simp only [hop, resolve, invoke, builtin, Sem.run_bind, Sem.run_pure, Result.andThen_ok, List.map_toArray, List.map_cons, List.map_nil, hd, hx, hr]
  exact hK _ (copied w b p cs hc)
theorem wp_copy3 {ops : Array Oper} {rest : List Oper} {o : Oper} {a : Act} {w : World} {Q : Exit → Act → World → Prop}
    (hg : o.guard = none) (d x : Operand) (hop : o.op = Op.call { callee := Callee.builtin Builtin.copy, args := #[d, x], argTypes := #[29, 29] })
    (b p dLen dCap g q sLen sCap n : Nat) (cs : List Value) (hd : a.eval d = .slice (some ⟨b, p, none⟩) dLen dCap) (hx : a.eval x = .slice (some ⟨g, q, none⟩) sLen sCap) (hm : Nat.min sLen dLen = n) (hn : cs.length = n * 3)
    (hsrc : ∀ j v, cs[j]? = some v → w.cell? ⟨g, q + j, none⟩ = some v) (hc : ∀ j, j < cs.length → (w.cell? ⟨b, p + j, none⟩).isSome = true) (hf : ∀ j, j < cs.length → w.frozen? ⟨b, p + j, none⟩ = false) (h1 : ∀ v ∈ cs, v.oneCell' = true)
    (hK : ∀ w', Copied w w' b p cs → wpList Try.prog ops Q rest (a.put o.dst (goInt n)) w') : wpList Try.prog ops Q (o :: rest) a w :=
  wpList_plain hg fun _ hk => by
    have hr := run_copy3 w o.type b p dLen dCap ⟨g, q, none⟩ sLen sCap n cs hm hn (fun j v hj => by rw [addr_addo]; exact hsrc j v hj) hc hf h1
    unfold Oper.wp execOp
    simp only [hop, resolve, invoke, builtin, Sem.run_bind, Sem.run_pure, Result.andThen_ok, List.map_toArray, List.map_cons, List.map_nil, hd, hx, hr]
    exact hk _ _ (hK _ (copied w b p cs hc))
theorem wp_appz {w : World} {ops : Array Oper} {rest : List Oper} {o : Oper} {a : Act} {Q : Exit → Act → World → Prop} (hgd : o.guard = none) (s x : Operand) (t t' : TypeId)
    (ho : o.op = .call { callee := .builtin .append, args := #[s, x], argTypes := #[t, t'] }) (v u r : Value) (w' : World) (hs : a.eval s = v) (hx : a.eval x = u)
    (hr : (Builtin.append_ #[t, t'] o.type #[v, u]).run Try.prog w = .ok r w') (h : wpList Try.prog ops Q rest (a.put o.dst r) w') : wpList Try.prog ops Q (o :: rest) a w :=
  wpList_plain hgd fun _ hK => by
    unfold Oper.wp execOp
    simp only [ho, resolve, invoke, builtin, Sem.run_bind, Sem.run_pure, Result.andThen_ok, List.map_toArray, List.map_cons, List.map_nil, hs, hx, hr]
    exact hK _ _ h
/-- files out of their cells -/
theorem filesAt_cells {W : World} {g : Nat} {l : List Fl} (h : ∀ j u, (fcells l)[j]? = some u → W.cell? ⟨g, j, none⟩ = some u) (hf : ∀ j, j < l.length * 3 → W.frozen? ⟨g, j, none⟩ = false) : FilesAt W g 0 l := fun j hj => by
  obtain ⟨q1, q2, q3⟩ := fcells_at l j hj
  rw [Nat.zero_add]
  exact ⟨⟨h _ _ q1, h _ _ q2, h _ _ q3⟩, hf _ (by omega), hf _ (by omega), hf _ (by omega)⟩
def insL (l : List Fl) (k : Nat) (f : Fl) : List Fl := l.take k ++ f :: l.drop k
theorem insL_length (l : List Fl) (k : Nat) (f : Fl) (h : k ≤ l.length) : (insL l k f).length = l.length + 1 := by unfold insL; simp; omega
theorem insL_cells (l : List Fl) (k : Nat) (f : Fl) : fcells (insL l k f) = fcells (l.take k) ++ (fcells [f] ++ fcells (l.drop k)) := by
  unfold insL
  rw [show f :: l.drop k = [f] ++ l.drop k from rfl, fcells_app, fcells_app]
/-- the three parts, as they lie -/
theorem ins_lie {W : World} {g k : Nat} {l : List Fl} {f : Fl} (hk : k ≤ l.length) (h1 : ∀ j u, (fcells (l.take k))[j]? = some u → W.cell? ⟨g, j, none⟩ = some u) (h2 : ∀ j u, (fcells [f])[j]? = some u → W.cell? ⟨g, k * 3 + j, none⟩ = some u)
    (h3 : ∀ j u, (fcells (l.drop k))[j]? = some u → W.cell? ⟨g, (k + 1) * 3 + j, none⟩ = some u) : ∀ j u, (fcells (insL l k f))[j]? = some u → W.cell? ⟨g, j, none⟩ = some u := by
  intro j u hu
  have hl : (fcells (l.take k)).length = k * 3 := by rw [length_fcells]; simp; omega
  have hl2 : (fcells [f]).length = 3 := rfl
  rw [insL_cells] at hu
  by_cases c1 : j < k * 3
  · rw [List.getElem?_append_left (by omega)] at hu
    exact h1 j u hu
  · rw [List.getElem?_append_right (by omega), hl] at hu
    by_cases c2 : j - k * 3 < 3
    · rw [List.getElem?_append_left (by omega)] at hu
      have := h2 _ u hu
      rwa [show k * 3 + (j - k * 3) = j by omega] at this
    · rw [List.getElem?_append_right (by omega), hl2] at hu
      have := h3 _ u hu
      rwa [show (k + 1) * 3 + (j - k * 3 - 3) = j by omega] at this
set_option maxRecDepth 100000 in
set_option maxHeartbeats 2000000 in
theorem insert_any (v : Value) (l : List Fl) (f : Fl) (k base vb : Nat) (w : World) (hv : OwnF w base v l) (hk : k ≤ l.length) (hbase : base ≤ w.heap.size) (hbox : HasRow w vb [.string f.p, .int .i64 f.m, .string f.d] 36) (hvb : v.ownBlock ≠ some vb) (hn : l.length ≤ 1000) :
    Calls Try.prog 92 #[v, .int .i64 k, .slice (some ⟨vb, 0, none⟩) 1 1] w fun e w' => ∃ u, e = .returned u ∧ Mk w' u (insL l k f) ∧ (∀ g, u.ownBlock = some g → base ≤ g ∧ g < w'.heap.size) ∧ Below base w w' := by
  have HV := hidT hv
  have HX := hidT hbox
  have c0 : w.cell? ⟨vb, 0, none⟩ = some (.string f.p) := Mem.cell_of_row hbox 0
  have c1 : w.cell? ⟨vb, 1, none⟩ = some (.int .i64 f.m) := Mem.cell_of_row hbox 1
  have c2 : w.cell? ⟨vb, 2, none⟩ = some (.string f.d) := Mem.cell_of_row hbox 2
  by_cases hkn : k = l.length
  · subst hkn
    have HE : Hid (insL l l.length f = l ++ [f]) := by show insL l l.length f = l ++ [f]; simp [insL]
    have HN := hidT hvb
    obtain ⟨ad, c, rfl⟩ := hv.form
    have hc := hv.cap _ _ _ rfl
    have HF : Hid (∀ g2 c2 w2, OwnF w2 base (.slice (some ⟨g2, 0, none⟩) (l.length + 1) c2) (l ++ [f]) → w.grownBy w2 (Value.slice ad l.length c).ownBlock → Mk w2 (.slice (some ⟨g2, 0, none⟩) (l.length + 1) c2) (insL l l.length f) ∧ (∀ g, (Value.slice (some ⟨g2, 0, none⟩) (l.length + 1) c2).ownBlock = some g → base ≤ g ∧ g < w2.heap.size) ∧ Below base w w2) := fun g2 c2 w2 h1 h2 => by
      rw [HE.out]
      refine ⟨h1.mk, fun g hg => h1.lt g hg, h2.os, h2.tape, h2.output, h2.size, fun q hq => h2.block q (by omega) ?_⟩
      intro e
      have := HV.out.lt q e.symm
      omega
    clear hv hbox hvb
    rcases ad with _ | ⟨g, o, sp⟩
    · go_enter Try.func92, Try.ntmps92
      go_wp2_with (at_builtin; refine wp_file (by rfl) _ _ (by rfl) base vb _ l f (by rfl) (by rfl) HV.out hbase c0 c1 c2 (by omega) ?_; intro g2 c3 w2 h1 h2; have HR := hidT (HF.out g2 c3 w2 h1 h2); clear h1 h2)
      go_ret
      exact ⟨_, rfl, HR.out⟩
    · go_enter Try.func92, Try.ntmps92
      go_wp2_with (at_builtin; refine wp_file (by rfl) _ _ (by rfl) base vb _ l f (by rfl) (by rfl) HV.out hbase c0 c1 c2 (by omega) ?_; intro g2 c3 w2 h1 h2; have HR := hidT (HF.out g2 c3 w2 h1 h2); clear h1 h2)
      all_goals (go_ret; exact ⟨_, rfl, HR.out⟩)
  · rcases hv.2 with ⟨_, h0⟩ | ⟨g, cap, cur, rfl, hg, hheap, hle, hmax, hcs, _⟩
    · exact absurd h0 (by omega)
    · have hgv : g ≠ vb := fun e => hvb (by rw [e]; rfl)
      have hgw : g < w.heap.size := (hv.lt g rfl).2
      have h0 : w.ownsRow base 36 3 (.slice (some ⟨g, 0, none⟩) l.length cap) l.length (fcells l) := hv
      have hC : Hid (∀ j u, (fcells l)[j]? = some u → w.cell? ⟨g, j, none⟩ = some u) := fun j u hu => by
        have hl := (List.getElem?_eq_some_iff.1 hu).1
        rw [length_fcells] at hl
        exact (h0.cellAt j hl).trans hu
      have hS : Hid (∀ j, j < cap * 3 → (w.cell? ⟨g, j, none⟩).isSome = true) := fun j hj => by
        unfold World.cell?
        rw [hheap]
        simp [hcs, hj]
      have hZ : Hid (∀ j, w.frozen? ⟨g, j, none⟩ = false) := fun j => h0.frozenAt j
      have hB : Hid (∀ j u, (fcells [f])[j]? = some u → w.cell? ⟨vb, j, none⟩ = some u) := fun j u hu => by
        rcases j with _ | _ | _ | j
        · simpa [fcells] using c0.trans hu
        · simpa [fcells] using c1.trans hu
        · simpa [fcells] using c2.trans hu
        · simp [fcells] at hu
      have hD : Hid (∀ j u, (fcells (l.drop k))[j]? = some u → (fcells l)[k * 3 + j]? = some u) := fun j u hu => by
        have e : fcells l = fcells (l.take k) ++ fcells (l.drop k) := by rw [← fcells_app, List.take_append_drop]
        have hl : (fcells (l.take k)).length = k * 3 := by rw [length_fcells]; simp; omega
        rw [e, List.getElem?_append_right (by omega), hl, show k * 3 + j - k * 3 = j by omega]
        exact hu
      have hT : Hid (∀ j u, (fcells (l.take k))[j]? = some u → j < k * 3 ∧ (fcells l)[j]? = some u) := fun j u hu => by
        have e : fcells l = fcells (l.take k) ++ fcells (l.drop k) := by rw [← fcells_app, List.take_append_drop]
        have hl : (fcells (l.take k)).length = k * 3 := by rw [length_fcells]; simp; omega
        have hj := (List.getElem?_eq_some_iff.1 hu).1
        exact ⟨by omega, by rw [e, List.getElem?_append_left hj]; exact hu⟩
      have hDl : Hid ((fcells (l.drop k)).length = (l.length - k) * 3) := by
        show (fcells (l.drop k)).length = _
        rw [length_fcells, List.length_drop]
      have hov : ∀ o lb cb, (callFunc 111 #[.slice (some ⟨vb, 0, none⟩) 1 1, .slice (some ⟨g, o, none⟩) lb cb]).run Try.prog w = .ok (.value (.bool false)) w := fun o lb cb => by
        rw [run_callFunc_extern (P := Try.prog) Try.func111 (by kernel_rfl) (by kernel_rfl) (by kernel_rfl) (e := Extern.SlicesOverlaps.overlaps #[29, 29] #[4]) (by kernel_rfl),
          Lib.run_overlaps_apart w 29 4 36 underFiles 3 (fun W => by
            obtain ⟨i, hi0, hz0, hz1, hz2⟩ := info_parts infoFile
            simp [sizeOf, typeInfo, hi0, hz1]) ⟨vb, 0, none⟩ ⟨g, o, none⟩ 1 1 lb cb (fun e => hgv e.symm) 36 36 3 cur.size (by unfold World.shape?; rw [HX.out]; rfl) (by unfold World.shape?; rw [hheap]) (by omega) (by unfold World.frozen?; rw [HX.out]; simp) (by unfold World.frozen?; rw [HX.out]; simp)]
        rfl
      have hz2 : ¬ ((k : Int) = (l.length : Int)) := by omega
      have hb1 : (0 : Int) ≤ (k : Int) + 1 := by omega
      have htn : ((k : Int) + 1).toNat = k + 1 := by omega
      have hw1 : IntKind.i64.wrap ((k : Int) + 1) = (k : Int) + 1 := by rw [IntKind.wrap_i64]; omega
      have hb3 : (k : Int) + 1 ≤ (l.length : Int) + 1 := by omega
      have hb5 : (k : Int) ≤ (l.length : Int) + 1 := by omega
      have hm63 : cap ≤ 9223372036854775807 := by have := hmax; unfold maxLen at this; omega
      clear hv hbox hvb HV h0 hheap hcs hmax
      by_cases hroom : l.length + 1 ≤ cap
      · have hb2 : ¬ (cap = k + 1) := by omega
        have hb4 : ¬ (cap = k) := by omega
        go_enter Try.func92, Try.ntmps92
        go_wp2_with (simp only [hov])
        go_region_held3 (fun W => W.cell? ⟨vb, 0, none⟩ = some (.string f.p))
          (first
            | go_keep
            | (exact kQ))
          ((refine step_copy3 (by rfl) _ _ (by rfl) g ((k + 1) * 3) (l.length - k) (cap - (k + 1)) g (k * 3) (l.length + 1 - k) (cap - k) (l.length - k) (fcells (l.drop k)) (by rfl) (by rfl) (by simp only [Nat.min_def]; split <;> omega) hDl.out (fun j u hj => hC.out _ _ (hD.out j u hj)) (fun j hj => hS.out _ (by have := hDl.out; omega)) (fun j _ => hZ.out _) (fcells_one _) ?_; intro w1 hw1; have kQ : w1.cell? ⟨vb, 0, none⟩ = some (.string f.p) := (hw1.out ⟨vb, 0, none⟩ (fun e => absurd e (Ne.symm hgv))).trans c0; have HW1 := hidT hw1; clear hw1))
        have hr2 := run_copy3 w1 3 g (k * 3) (l.length + 1 - k) (cap - k) ⟨vb, 0, none⟩ 1 1 1 (fcells [f]) (by simp only [Nat.min_def]; split <;> omega) (by rfl) (fun j u hj => (HW1.out.out (Addr.add ⟨vb, 0, none⟩ j) (fun e => absurd (by rw [addr_addo] at e; exact e) (Ne.symm hgv))).trans (by rw [addr_addo, Nat.zero_add]; exact hB.out j u hj)) (fun j hj => HW1.out.some _ (hS.out _ (by have h3 : j < 3 := hj; omega))) (fun j _ => (HW1.out.froz _).trans (hZ.out _)) (fcells_one _)
        have HW2 := hidT (copied w1 g (k * 3) (fcells [f]) (fun j hj => HW1.out.some _ (hS.out _ (by have h3 : j < 3 := hj; omega))))
        generalize w1.setCells g (k * 3) (fcells [f]) = w2 at *
        go_wp2_with (simp only [hr2])
        go_ret
        have B1 := HW1.out
        have B2 := HW2.out
        refine ⟨_, rfl, .inl ⟨g, cap, by rw [insL_length l k f hk]; rfl, filesAt_cells (ins_lie hk ?_ ?_ ?_) ?_⟩, ?_, ?_⟩
        · intro j u hj
          obtain ⟨h1, h2⟩ := hT.out j u hj
          exact ((B2.out ⟨g, j, none⟩ (fun _ _ => .inl h1)).trans (B1.out ⟨g, j, none⟩ (fun _ _ => .inl (by show j < _; omega)))).trans (hC.out j u h2)
        · intro j u hj
          exact B2.inn j u hj
        · intro j u hj
          exact (B2.out ⟨g, (k + 1) * 3 + j, none⟩ (fun _ _ => .inr (by show k * 3 + 3 ≤ (k + 1) * 3 + j; omega))).trans (B1.inn j u hj)
        · intro j _
          exact (B2.froz _).trans ((B1.froz _).trans (hZ.out j))
        · intro q hq
          obtain rfl : g = q := by simpa [Value.ownBlock] using hq
          have e2 := (B2.below base hg).size
          have e1 := (B1.below base hg).size
          exact ⟨hg, by have : w.drew.heap.size = w.heap.size := rfl; omega⟩
        · exact ((Below.refl base w).drew.trans (B1.below base hg)).trans (B2.below base hg)
      · have hik : k + (l.length + 1 - k) = l.length + 1 := by omega
        have hz3 : (cap : Int) < (l.length : Int) + 1 := by omega
        have hw2 : IntKind.i64.wrap ((l.length : Int) + 1 - (k : Int)) = (l.length : Int) + 1 - (k : Int) := by rw [IntKind.wrap_i64]; omega
        have hkk : (l.length : Int) + 1 - (k : Int) = ((l.length + 1 - k : Nat) : Int) := by omega
        obtain ⟨i, hi0, hj0, hj1, hj2⟩ := info_parts infoFile
        have hold : (Builtin.firstCells i.size k (.slice (some ⟨g, 0, none⟩) k cap)).run Try.prog w.drew = .ok (fcells (l.take k)).toArray w.drew := by
          rw [hj1]
          exact run_firstCells_some w.drew 3 k ⟨g, 0, none⟩ k cap (fcells (l.take k)) (by rw [length_fcells]; simp; omega) (fun j v hj => by rw [addr_addo, Nat.zero_add]; exact hC.out _ _ (hT.out j v hj).2)
        have hrz := fun ty => Lib.run_append_grow_zeros w 29 3 ty 36 i _ .i64 .i64 underFiles (by kernel_rfl) hi0 hj0 (some ⟨g, 0, none⟩) k cap (fcells (l.take k)) hold (l.length + 1 - k) (by omega) (by omega) (by omega) (by omega) (by rw [hj2]; omega) (by rw [hj2, hik]; exact growslice_fits (by omega) (by omega))
        rw [hik] at hrz
        have hGn : l.length + 1 ≤ grownCap w (l.length + 1) cap 36 := grownCap_ge w _ _ _
        have hG63 : grownCap w (l.length + 1) cap 36 ≤ 9223372036854775807 := by
          have := grownCap_le_maxLen w (l.length + 1) cap 36 (by unfold maxLen; omega)
          unfold maxLen at this
          omega
        generalize grownCap w (l.length + 1) cap 36 = G at *
        obtain ⟨ROW, hROW⟩ : ∃ ROW : Array Value, ROW = (fcells (l.take k)).toArray ++ Builtin.zeroCells (Value.agg #[.string ByteArray.empty, .int .i64 0, .string ByteArray.empty]).cells (l.length + 1 - k) ++ Builtin.zeroCells (Value.agg #[.string ByteArray.empty, .int .i64 0, .string ByteArray.empty]).cells (G - (l.length + 1)) := ⟨_, rfl⟩
        rw [← hROW] at hrz
        have hlk : (fcells (l.take k)).length = k * 3 := by rw [length_fcells]; simp; omega
        have hRl : (l.length + 1) * 3 ≤ ROW.size := by
          rw [hROW]
          simp [Builtin.zeroCells, Value.cells, hlk]
          omega
        have hRT : ∀ j u, (fcells (l.take k))[j]? = some u → ROW[j]? = some u := fun j u hu => by
          have hj := (List.getElem?_eq_some_iff.1 hu).1
          rw [hROW, Array.append_assoc, Array.getElem?_append_left (by simpa using hj)]
          simpa using hu
        have VS : Hid (∀ j, j < (l.length + 1) * 3 → ((w.drew.alloc (.cells ROW 36)).cell? ⟨w.heap.size, j, none⟩).isSome = true) := fun j hj => by
          rw [World.cell?_alloc_at (w := w.drew) ROW _ w.heap.size j rfl, Array.getElem?_eq_getElem (by omega)]; rfl
        have VT : Hid (∀ j u, (fcells (l.take k))[j]? = some u → (w.drew.alloc (.cells ROW 36)).cell? ⟨w.heap.size, j, none⟩ = some u) := fun j u hu => by
          rw [World.cell?_alloc_at (w := w.drew) ROW _ w.heap.size j rfl]; exact hRT j u hu
        have VZ : Hid (∀ j, (w.drew.alloc (.cells ROW 36)).frozen? ⟨w.heap.size, j, none⟩ = false) := fun j => World.frozen?_alloc_at (w := w.drew) ROW _ w.heap.size j rfl
        have VO : Hid (∀ b j, b < w.heap.size → (w.drew.alloc (.cells ROW 36)).cell? ⟨b, j, none⟩ = w.cell? ⟨b, j, none⟩) := fun b j hb => World.cell?_alloc_past (w := w.drew) _ b j hb
        have VB : Hid (Below w.heap.size w (w.drew.alloc (.cells ROW 36)) ∧ w.heap.size < (w.drew.alloc (.cells ROW 36)).heap.size) := ⟨(Below.refl _ w).drew.alloc (Nat.le_refl _) _, by simp⟩
        generalize w.drew.alloc (.cells ROW 36) = V at *
        have hvw : vb < w.heap.size := World.block_lt_of_cell? w _ c0
        have e1 : ∀ j u, (fcells [f])[j]? = some u → V.cell? (Addr.add ⟨vb, 0, none⟩ j) = some u := fun j u hj => by
          rw [addr_addo]
          exact (VO.out vb (0 + j) hvw).trans (by rw [Nat.zero_add]; exact hB.out j u hj)
        have e2 : ∀ j, j < (fcells [f]).length → (V.cell? ⟨w.heap.size, k * 3 + j, none⟩).isSome = true := fun j hj => VS.out _ (by have h3 : j < 3 := hj; omega)
        have hr1 := run_copy3 V 3 w.heap.size (k * 3) (l.length + 1 - k) (G - k) ⟨vb, 0, none⟩ 1 1 1 (fcells [f]) (by simp only [Nat.min_def]; split <;> omega) (by rfl) e1 e2 (fun j _ => VZ.out _) (fcells_one _)
        have HW1 := hidT (copied V w.heap.size (k * 3) (fcells [f]) e2)
        generalize V.setCells w.heap.size (k * 3) (fcells [f]) = w1 at *
        have kP : w1.cell? ⟨vb, 0, none⟩ = some (.string f.p) := (HW1.out.out ⟨vb, 0, none⟩ (fun e => absurd e (Nat.ne_of_lt hvw))).trans ((VO.out vb 0 hvw).trans c0)
        have hGi : ¬ (G = k) := by omega
        have hGim : ¬ (G = k + 1) := by omega
        have hci : ¬ (cap = k) := by omega
        have hb6 : (k : Int) ≤ (l.length : Int) := by omega
        have hb7 : k ≤ cap := by omega
        clear hRT hRl hROW hold hov hik e1 e2
        go_enter Try.func92, Try.ntmps92
        go_wp2_with (first
          | (at_builtin; refine wp_appz (by rfl) _ _ _ _ (by rfl) _ _ _ _ (by rfl) (by rfl) (hrz _) ?_)
          | (simp only [hr1]))
        go_region_held3 (fun W => W.cell? ⟨vb, 0, none⟩ = some (.string f.p))
          (first
            | go_keep
            | (exact kQ))
          ((refine step_copy3 (by rfl) _ _ (by rfl) w.heap.size ((k + 1) * 3) (l.length - k) (G - (k + 1)) g (k * 3) (l.length - k) (cap - k) (l.length - k) (fcells (l.drop k)) (by rfl) (by rfl) (by simp only [Nat.min_def]; split <;> omega) hDl.out (fun j u hj => (HW1.out.out ⟨g, k * 3 + j, none⟩ (fun e => absurd e (Nat.ne_of_lt hgw))).trans ((VO.out g _ hgw).trans (hC.out _ _ (hD.out j u hj)))) (fun j hj => HW1.out.some _ (VS.out _ (by have := hDl.out; omega))) (fun j _ => (HW1.out.froz _).trans (VZ.out _)) (fcells_one _) ?_; intro w2 hw2; have kQ : w2.cell? ⟨vb, 0, none⟩ = some (.string f.p) := (hw2.out ⟨vb, 0, none⟩ (fun e => absurd e (Nat.ne_of_lt hvw))).trans kP; have HW2 := hidT hw2; clear hw2))
        go_wp2
        go_ret
        have B1 := HW1.out
        have B2 := HW2.out
        refine ⟨_, rfl, .inl ⟨w.heap.size, G, by rw [insL_length l k f hk]; rfl, filesAt_cells (ins_lie hk ?_ ?_ ?_) ?_⟩, ?_, ?_⟩
        · intro j u hj
          obtain ⟨h1, h2⟩ := hT.out j u hj
          exact ((B2.out ⟨w.heap.size, j, none⟩ (fun _ _ => .inl (by show j < (k + 1) * 3; omega))).trans (B1.out ⟨w.heap.size, j, none⟩ (fun _ _ => .inl h1))).trans (VT.out j u hj)
        · intro j u hj
          have h3 : j < 3 := (List.getElem?_eq_some_iff.1 hj).1
          exact (B2.out ⟨w.heap.size, k * 3 + j, none⟩ (fun _ _ => .inl (by show k * 3 + j < (k + 1) * 3; omega))).trans (B1.inn j u hj)
        · intro j u hj
          exact B2.inn j u hj
        · intro j _
          exact (B2.froz _).trans ((B1.froz _).trans (VZ.out j))
        · intro q hq
          obtain rfl : w.heap.size = q := by simpa [Value.ownBlock] using hq
          have e0 := VB.out.2
          have e1 := (B1.below base hbase).size
          have e2 : w1.heap.size ≤ w2.heap.size := (B2.below base hbase).size
          exact ⟨hbase, by omega⟩
        · exact (((VB.out.1.mono hbase).trans (B1.below base hbase)).drew).trans (B2.below base hbase)
end Go.Proofs.Ytfpgobkedfhakaa.Tre
