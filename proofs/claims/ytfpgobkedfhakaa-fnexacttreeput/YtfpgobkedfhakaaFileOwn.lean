/- Lists of files that the call itself appends to. -/
import Derived.Test.YtfpgobkedfhakaaHarnFile3
import Derived.Test.YtfpgobkedfhakaaOwnVals
namespace Go.Proofs.Ytfpgobkedfhakaa.Tre
open Go.RowKit Go.Proofs.Ytfpgobkedfhakaa.Mem Go.Proofs.Ytfpgobkedfhakaa.Gf Go.Proofs.Ytfpgobkedfhakaa.Harn Go.Proofs.Ytfpgobkedfhakaa.Mark

def fcells : List Fl → List Value
  | [] => []
  | y :: l => .string y.p :: .int .i64 y.m :: .string y.d :: fcells l
theorem length_fcells (l : List Fl) : (fcells l).length = l.length * 3 := by
  induction l with
  | nil => rfl
  | cons y l ih => simp [fcells, ih]; omega
theorem fcells_at (l : List Fl) (j : Nat) (h : j < l.length) : (fcells l)[j * 3]? = some (.string l[j].p) ∧ (fcells l)[j * 3 + 1]? = some (.int .i64 l[j].m) ∧ (fcells l)[j * 3 + 2]? = some (.string l[j].d) := by
  induction l generalizing j with
  | nil => simp at h
  | cons y l ih =>
    cases j with
    | zero => simp [fcells]
    | succ j =>
      have := ih j (by simpa using h)
      rw [show (j + 1) * 3 = j * 3 + 1 + 1 + 1 by omega]
      simpa [fcells] using this
theorem fcells_snoc (l : List Fl) (y : Fl) : fcells (l ++ [y]) = fcells l ++ [.string y.p, .int .i64 y.m, .string y.d] := by
  induction l with
  | nil => rfl
  | cons z l ih => simp [fcells, ih]
/-- A list of files that owns its row, or is nil. -/
def OwnF (W : World) (base : Nat) (v : Value) (l : List Fl) : Prop := W.ownsRow base 36 3 v l.length (fcells l)
theorem ownF_nil (W : World) (base : Nat) : OwnF W base (.slice none 0 0) [] := World.ownsRow_nil _ _ _ _
theorem OwnF.lt {W : World} {base : Nat} {v : Value} {l : List Fl} (h : OwnF W base v l) : ∀ g, v.ownBlock = some g → base ≤ g ∧ g < W.heap.size := World.ownsRow.lt h
theorem OwnF.same {W W' : World} {base B : Nat} {v : Value} {l : List Fl} (h : OwnF W base v l) (hb : ∀ g, v.ownBlock = some g → W'.heap[g]? = W.heap[g]?) (hB : B ≤ base) : OwnF W' B v l := by
  obtain ⟨h1, h2⟩ := h
  refine ⟨h1, ?_⟩
  rcases h2 with ⟨rfl, h2⟩ | ⟨g, cap, cur, rfl, e2, e3, e4⟩
  · exact .inl ⟨rfl, h2⟩
  · exact .inr ⟨g, cap, cur, rfl, by omega, (hb g rfl).trans e3, e4⟩
theorem OwnF.below {W W' : World} {base B : Nat} {v : Value} {l : List Fl} (h : OwnF W base v l) (hb : Below W.heap.size W W') (hB : B ≤ base) : OwnF W' B v l := h.same (fun g hg => hb.block g (h.lt g hg).2) hB
theorem OwnF.setCell {W : World} {base : Nat} {v : Value} {l : List Fl} (h : OwnF W base v l) {a : Addr} (ha : v.ownBlock ≠ some a.block) (u : Value) : OwnF (W.setCell a u) base v l := h.same (fun g hg => Below.heap_setCell _ _ _ _ (fun e => ha (by rw [← e]; exact hg))) (Nat.le_refl _)
theorem OwnF.mk {W : World} {base : Nat} {v : Value} {l : List Fl} (h : OwnF W base v l) : Mk W v l := by
  have h0 := h
  rcases h.2 with ⟨rfl, hn⟩ | ⟨g, cap, cur, rfl, _⟩
  · exact .inr ⟨rfl, List.length_eq_zero_iff.1 hn⟩
  · refine .inl ⟨g, cap, rfl, fun j hj => ?_⟩
    obtain ⟨q1, q2, q3⟩ := fcells_at l j hj
    have h1 : W.ownsRow base 36 3 (.slice (some ⟨g, 0, none⟩) l.length cap) l.length (fcells l) := h0
    rw [Nat.zero_add]
    exact ⟨⟨(h1.cellAt (j * 3) (by omega)).trans q1, (h1.cellAt (j * 3 + 1) (by omega)).trans q2, (h1.cellAt (j * 3 + 2) (by omega)).trans q3⟩, h1.frozenAt _, h1.frozenAt _, h1.frozenAt _⟩
theorem OwnF.cap {W : World} {base : Nat} {v : Value} {l : List Fl} (h : OwnF W base v l) : ∀ a n c, v = .slice a n c → n ≤ c := by
  intro a n c e
  rcases h.2 with ⟨rfl, _⟩ | ⟨g, cap, cur, rfl, _, _, hle, _⟩
  · injection e; omega
  · injection e; omega
/-- 'append(v, f)' -/
theorem step_file {w : World} {ops : Array Oper} {o : Oper} {a : Act} {K : Act → World → Prop} {Q : Exit → Act → World → Prop} {E : Prop} (hgd : o.guard = none) (s x : Operand)
    (ho : o.op = .call { callee := .builtin .append, args := #[s, x], argTypes := #[29, 29] }) (base b : Nat) (v : Value) (l : List Fl) (f : Fl) (hs : a.eval s = v) (hx : a.eval x = .slice (some ⟨b, 0, none⟩) 1 1)
    (h : OwnF w base v l) (hbase : base ≤ w.heap.size) (h0 : w.cell? ⟨b, 0, none⟩ = some (.string f.p)) (h1 : w.cell? ⟨b, 1, none⟩ = some (.int .i64 f.m)) (h2 : w.cell? ⟨b, 2, none⟩ = some (.string f.d)) (hn : l.length ≤ 1000000)
    (hK : ∀ g c w', OwnF w' base (.slice (some ⟨g, 0, none⟩) (l.length + 1) c) (l ++ [f]) → w.grownBy w' v.ownBlock → K (a.put o.dst (.slice (some ⟨g, 0, none⟩) (l.length + 1) c)) w') :
    if Region.wanted o (yielded ops a.tmps) = true then Oper.wp Try.prog o a w K Q else E := by
  obtain ⟨i, hi0, hz0, hz1, hz2⟩ := info_parts infoFile
  obtain ⟨g', cap, w', hr, hown, hgr, hat, hlt⟩ := run_append_lies (P := Try.prog) w 29 o.type base 36 i (.agg #[.string ByteArray.empty, .int .i64 0, .string ByteArray.empty]) 3 40 underFiles hi0 hz0 hz1 hz2 rfl (by omega) v l.length (fcells l) h ⟨b, 0, none⟩ 1 1 [.string f.p, .int .i64 f.m, .string f.d] rfl (fun j u hu => by
    rw [addr_add0]
    rcases j with _ | _ | _ | j
    · simp at hu; rw [h0, hu]
    · simp at hu; rw [h1, hu]
    · simp at hu; rw [h2, hu]
    · simp at hu) (by simp [Value.oneCell']) (by omega) (by unfold maxLen; omega) (by omega) hbase w.heap.size rfl
  exact step_app hgd s x _ ho _ _ _ w' hs hx hr (hK g' cap w' (by unfold OwnF; rw [fcells_snoc]; simpa using hown) hgr)
theorem wp_file {w : World} {ops : Array Oper} {rest : List Oper} {o : Oper} {a : Act} {Q : Exit → Act → World → Prop} (hgd : o.guard = none) (s x : Operand)
    (ho : o.op = .call { callee := .builtin .append, args := #[s, x], argTypes := #[29, 29] }) (base b : Nat) (v : Value) (l : List Fl) (f : Fl) (hs : a.eval s = v) (hx : a.eval x = .slice (some ⟨b, 0, none⟩) 1 1)
    (h : OwnF w base v l) (hbase : base ≤ w.heap.size) (h0 : w.cell? ⟨b, 0, none⟩ = some (.string f.p)) (h1 : w.cell? ⟨b, 1, none⟩ = some (.int .i64 f.m)) (h2 : w.cell? ⟨b, 2, none⟩ = some (.string f.d)) (hn : l.length ≤ 1000000)
    (hK : ∀ g c w', OwnF w' base (.slice (some ⟨g, 0, none⟩) (l.length + 1) c) (l ++ [f]) → w.grownBy w' v.ownBlock → wpList Try.prog ops Q rest (a.put o.dst (.slice (some ⟨g, 0, none⟩) (l.length + 1) c)) w') : wpList Try.prog ops Q (o :: rest) a w := by
  obtain ⟨i, hi0, hz0, hz1, hz2⟩ := info_parts infoFile
  obtain ⟨g', cap, w', hr, hown, hgr, hat, hlt⟩ := run_append_lies (P := Try.prog) w 29 o.type base 36 i (.agg #[.string ByteArray.empty, .int .i64 0, .string ByteArray.empty]) 3 40 underFiles hi0 hz0 hz1 hz2 rfl (by omega) v l.length (fcells l) h ⟨b, 0, none⟩ 1 1 [.string f.p, .int .i64 f.m, .string f.d] rfl (fun j u hu => by
    rw [addr_add0]
    rcases j with _ | _ | _ | j
    · simp at hu; rw [h0, hu]
    · simp at hu; rw [h1, hu]
    · simp at hu; rw [h2, hu]
    · simp at hu) (by simp [Value.oneCell']) (by omega) (by unfold maxLen; omega) (by omega) hbase w.heap.size rfl
  exact wp_app1 hgd s x _ ho _ _ _ w' hs hx hr (hK g' cap w' (by unfold OwnF; rw [fcells_snoc]; simpa using hown) hgr)
end Go.Proofs.Ytfpgobkedfhakaa.Tre
