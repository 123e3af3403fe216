/- 'append(xs, ys...)' of lists of values of one cell each. -/
import Derived.Test.YtfpgobkedfhakaaOwnVals
namespace Go.Proofs.Ytfpgobkedfhakaa.Gf
open Go.RowKit Go.Proofs.Ytfpgobkedfhakaa.Mem Go.Proofs.Ytfpgobkedfhakaa.Harn

theorem app_to_some {P : Program} (t ty e : TypeId) (z : Value) (size bytes : Nat) (ht : P.underlying t = some (.slice e)) (hi : (P.info? e).map (fun i => (i.zero, i.size, i.bytes)) = some (some z, size, bytes)) (b0 : Addr) (n cap : Nat) (hn : n ≤ cap) (a : Option Addr) (c : Nat) (w : World) :
    (Builtin.append_ #[t, t] ty #[.slice (some b0) n cap, .slice a 0 c]).run P w = .ok (.slice (some b0) n cap) w := by
  obtain ⟨i, hi0, hz0, hz1, hz2⟩ := info_parts hi
  cases a <;> simp [Builtin.append_, run_underlying ht, sizeOf, typeInfo, hi0, Builtin.lenOf, Builtin.firstCells, storeCells, loadCells, loadCellsFrom, hn]
theorem app_to_nil {P : Program} (t ty e : TypeId) (z : Value) (size bytes : Nat) (ht : P.underlying t = some (.slice e)) (hi : (P.info? e).map (fun i => (i.zero, i.size, i.bytes)) = some (some z, size, bytes)) (a : Option Addr) (c : Nat) (w : World) :
    (Builtin.append_ #[t, t] ty #[.slice none 0 0, .slice a 0 c]).run P w = .ok (.slice none 0 0) w := by
  obtain ⟨i, hi0, hz0, hz1, hz2⟩ := info_parts hi
  cases a <;> simp [Builtin.append_, run_underlying ht, sizeOf, typeInfo, hi0, Builtin.lenOf, Builtin.firstCells, loadCells, loadCellsFrom]
theorem app_many {P : Program} (t ty T : TypeId) (z : Value) (bytes : Nat) (ht : P.underlying t = some (.slice T)) (hi : (P.info? T).map (fun i => (i.zero, i.size, i.bytes)) = some (some z, 1, bytes)) (hzs : z.cells.size = 1) (hby : bytes ≤ 64) (base : Nat) (v u : Value) (cs us : List Value) (W : World) (h : OwnV T W base v cs) (hu : ∃ a c, u = .slice a us.length c ∧ ∀ j (_ : j < us.length), ∃ g o, a = some ⟨g, o, none⟩ ∧ W.cell? ⟨g, o + j, none⟩ = us[j]?) (hbase : base ≤ W.heap.size) (h1 : ∀ u ∈ us, u.oneCell' = true) (hn : cs.length + us.length ≤ 1100000) :
    ∃ v' W1, (Builtin.append_ #[t, t] ty #[v, u]).run P W = .ok v' W1 ∧ OwnV T W1 base v' (cs ++ us) ∧ Below base W W1 ∧ W.heap.size ≤ W1.heap.size := by
  obtain ⟨a, c, rfl, hc⟩ := hu
  by_cases h0 : us.length = 0
  · have e : us = [] := List.length_eq_zero_iff.1 h0
    subst e
    have h2 := h
    rcases h.2 with ⟨rfl, hn0⟩ | ⟨g, cap, cur, rfl, _, _, hle, _⟩
    · exact ⟨_, W, app_to_nil t ty T z 1 bytes ht hi a c W, by rw [List.append_nil]; exact h2, Below.refl _ _, Nat.le_refl _⟩
    · exact ⟨_, W, app_to_some t ty T z 1 bytes ht hi _ _ _ hle a c W, by rw [List.append_nil]; exact h2, Below.refl _ _, Nat.le_refl _⟩
  · obtain ⟨i, hi0, hz0, hz1, hz2⟩ := info_parts hi
    obtain ⟨gb, ob, rfl, _⟩ := hc 0 (by omega)
    obtain ⟨g', cap, W1, hr, hown, hgr, hat, hlt⟩ := run_append_lies (P := P) W t ty base T i z 1 bytes ht hi0 hz0 hz1 hz2 hzs (by omega) v cs.length cs h ⟨gb, ob, none⟩ us.length c us (by omega) (fun j u hu => by
      have hj : j < us.length := by
        rcases Nat.lt_or_ge j us.length with h | h
        · exact h
        · rw [List.getElem?_eq_none h] at hu; cases hu
      obtain ⟨g2, o2, hg2, c2⟩ := hc j hj
      injection hg2 with hg2
      injection hg2 with e1 e2 _
      subst e1 e2
      have hadd : (⟨gb, ob, none⟩ : Addr).add j = ⟨gb, ob + j, none⟩ := by unfold Addr.add; split <;> simp_all
      rw [hadd, c2, hu]) h1 (by omega) (by unfold maxLen; omega) (by
      have : (cs.length + us.length) * bytes ≤ 1100001 * 64 := Nat.mul_le_mul (by omega) hby
      omega) hbase W.heap.size rfl
    have hb := (Below.refl base W).grown hgr hbase (fun j hj => (World.ownsRow.lt h j hj).1)
    exact ⟨_, W1, hr, by unfold OwnV; simpa using hown, hb, hb.size⟩
/-- texts behind texts -/
theorem wp_strs {w : World} {ops : Array Oper} {rest : List Oper} {o : Oper} {a : Act} {Q : Exit → Act → World → Prop} (hgd : o.guard = none) (s x : Operand)
    (ho : o.op = .call { callee := .builtin .append, args := #[s, x], argTypes := #[96, 96] }) (base : Nat) (v u : Value) (ls l2 : List ByteArray) (hs : a.eval s = v) (hx : a.eval x = u)
    (h : OwnS w base v ls) (hu : Strs w u l2) (hbase : base ≤ w.heap.size) (hn : ls.length + l2.length ≤ 1100000)
    (hK : ∀ v' w', OwnS w' base v' (ls ++ l2) → Below base w w' → w.heap.size ≤ w'.heap.size → wpList Try.prog ops Q rest (a.put o.dst v') w') : wpList Try.prog ops Q (o :: rest) a w := by
  obtain ⟨v', w', hr, h1, h2, h3⟩ := app_many (P := Try.prog) 96 o.type 9 (.string ByteArray.empty) 16 underStrs infoStr rfl (by omega) base v u (ls.map Value.string) (l2.map Value.string) w h (by
    obtain ⟨a, c, rfl, hc⟩ := hu
    refine ⟨a, c, by simp, fun j hj => ?_⟩
    have hj2 : j < l2.length := by simpa using hj
    obtain ⟨g, ob, e, hcell⟩ := hc j hj2
    exact ⟨g, ob, e, by rw [hcell]; simp [hj2]⟩) hbase (fun u hu => by obtain ⟨t, _, rfl⟩ := List.mem_map.1 hu; rfl) (by simpa using hn)
  exact wp_app1 hgd s x _ ho _ _ _ w' hs hx hr (hK v' w' (by unfold OwnS; rw [List.map_append]; exact h1) h2 h3)
end Go.Proofs.Ytfpgobkedfhakaa.Gf
