/- 'append(v, fs...)' of lists of files. -/
import Derived.Test.YtfpgobkedfhakaaFileOwn
namespace Go.Proofs.Ytfpgobkedfhakaa.Tre
open Go.RowKit Go.Proofs.Ytfpgobkedfhakaa.Mem Go.Proofs.Ytfpgobkedfhakaa.Gf Go.Proofs.Ytfpgobkedfhakaa.Harn Go.Proofs.Ytfpgobkedfhakaa.Mark

theorem fcells_app (l r : List Fl) : fcells (l ++ r) = fcells l ++ fcells r := by
  induction l with
  | nil => rfl
  | cons y l ih => simp [fcells, ih]
theorem fcells_one (l : List Fl) : ∀ u ∈ fcells l, u.oneCell' = true := by
  induction l with
  | nil => simp [fcells]
  | cons y l ih =>
    intro u hu
    simp only [fcells, List.mem_cons] at hu
    rcases hu with rfl | rfl | rfl | hu
    · simp [Value.oneCell']
    · simp [Value.oneCell']
    · simp [Value.oneCell']
    · exact ih u hu
theorem addr_addo (b o j : Nat) : (⟨b, o, none⟩ : Addr).add j = ⟨b, o + j, none⟩ := by unfold Addr.add; split <;> simp_all
/-- the files' cells, as they lie -/
theorem cells_lie {W : World} {b o : Nat} {fs : List Fl} (h : ∀ j (hj : j < fs.length), W.cell? ⟨b, o + j * 3, none⟩ = some (.string fs[j].p) ∧ W.cell? ⟨b, o + j * 3 + 1, none⟩ = some (.int .i64 fs[j].m) ∧ W.cell? ⟨b, o + j * 3 + 2, none⟩ = some (.string fs[j].d)) :
    ∀ j u, (fcells fs)[j]? = some u → W.cell? ((⟨b, o, none⟩ : Addr).add j) = some u := by
  intro j u hu
  have hl : j < fs.length * 3 := by
    rw [← length_fcells]
    exact (List.getElem?_eq_some_iff.1 hu).1
  obtain ⟨q, r, hr, rfl⟩ : ∃ q r, r < 3 ∧ j = q * 3 + r := ⟨j / 3, j % 3, Nat.mod_lt _ (by omega), by omega⟩
  have hq : q < fs.length := by omega
  obtain ⟨q1, q2, q3⟩ := fcells_at fs q hq
  obtain ⟨c1, c2, c3⟩ := h q hq
  rw [addr_addo]
  match r, hr with
  | 0, _ => rw [Nat.add_zero] at hu ⊢; rw [q1] at hu; rw [c1, hu]
  | 1, _ => rw [q2] at hu; rw [← Nat.add_assoc, c2, hu]
  | 2, _ => rw [q3] at hu; rw [← Nat.add_assoc, c3, hu]
/-- 'append(v, fs...)' -/
theorem wp_files {w : World} {ops : Array Oper} {rest : List Oper} {o : Oper} {a : Act} {Q : Exit → Act → World → Prop} (hgd : o.guard = none) (s x : Operand)
    (ho : o.op = .call { callee := .builtin .append, args := #[s, x], argTypes := #[29, 29] }) (base b p n c : Nat) (v : Value) (l fs : List Fl) (hnf : n = fs.length) (hs : a.eval s = v) (hx : a.eval x = .slice (some ⟨b, p, none⟩) n c)
    (h : OwnF w base v l) (hbase : base ≤ w.heap.size)
    (hf : ∀ j (hj : j < fs.length), w.cell? ⟨b, p + j * 3, none⟩ = some (.string fs[j].p) ∧ w.cell? ⟨b, p + j * 3 + 1, none⟩ = some (.int .i64 fs[j].m) ∧ w.cell? ⟨b, p + j * 3 + 2, none⟩ = some (.string fs[j].d)) (hn : l.length + fs.length ≤ 1000000)
    (hK : ∀ u w', OwnF w' base u (l ++ fs) → w.grownBy w' v.ownBlock → wpList Try.prog ops Q rest (a.put o.dst u) w') : wpList Try.prog ops Q (o :: rest) a w := by
  subst hnf
  obtain ⟨i, hi0, hz0, hz1, hz2⟩ := info_parts infoFile
  obtain ⟨u, w', hr, hown, hgr, _, _⟩ := run_append_own_at (P := Try.prog) w base 29 o.type 36 i (.agg #[.string ByteArray.empty, .int .i64 0, .string ByteArray.empty]) 3 40 underFiles hi0 hz0 hz1 hz2 rfl (by omega) v l.length (fcells l) h ⟨b, p, none⟩ fs.length c (fcells fs) (length_fcells fs) (cells_lie hf) (fcells_one fs) (by unfold maxLen; omega) (by omega) hbase
  exact wp_app1 hgd s x _ ho _ _ _ w' hs hx hr (hK u w' (by unfold OwnF; rw [fcells_app]; simpa using hown) hgr)
/-- '[]File{}' -/
theorem ownF_empty {W : World} {base g : Nat} (hb : base ≤ g) (h : HasRow W g [] 36) : OwnF W base (.slice (some ⟨g, 0, none⟩) 0 0) [] := ⟨rfl, .inr ⟨g, 0, #[], rfl, hb, h, by simp, by simp [fcells]⟩⟩
end Go.Proofs.Ytfpgobkedfhakaa.Tre
