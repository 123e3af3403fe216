/- 'append([]T{}, xs...)': a copy of a list of texts, of pending writes, in a block of its own. -/
import Derived.Test.YtfpgobkedfhakaaHarnInts
import Derived.ArgAppend
import Derived.Deep.Upon
import Derived.Deep.AppendLies
import Derived.Deep.RegionHeld3
namespace Go.Proofs.Ytfpgobkedfhakaa.Harn
open Go.RowKit Go.Proofs.Ytfpgobkedfhakaa.Mem Go.Proofs.Ytfpgobkedfhakaa.Mark

theorem bel_grown {W W1 : World} (h : W.grownBy W1 none) : Below W.heap.size W W1 := ⟨h.os, h.tape, h.output, h.size, fun k hk => h.block k hk (by simp)⟩

/-- A run of 'append' of at least one element behind an empty slice without room. -/
theorem app_new {P : Program} (t ty e : TypeId) (z : Value) (size bytes : Nat) (ht : P.underlying t = some (.slice e)) (hi : (P.info? e).map (fun i => (i.zero, i.size, i.bytes)) = some (some z, size, bytes)) (hzs : z.cells.size = size) (hsz : 0 < size) (b0 : Addr)
    (a : Addr) (m c : Nat) (news : List Value) (w : World) (hl : news.length = m * size) (hnews : ∀ j u, news[j]? = some u → w.cell? (a.add j) = some u) (hm : 0 < m) (h63 : m ≤ maxLen) (hbytes : m * bytes ≤ 140737488355328) :
    ∃ g cap W1, (Builtin.append_ #[t, t] ty #[.slice (some b0) 0 0, .slice (some a) m c]).run P w = .ok (.slice (some ⟨g, 0, none⟩) m cap) W1 ∧ w.heap.size ≤ g ∧ g < W1.heap.size ∧ Below w.heap.size w W1 ∧ (∀ j u, news[j]? = some u → W1.cell? ⟨g, j, none⟩ = some u) ∧ (∀ j, W1.frozen? ⟨g, j, none⟩ = false) ∧ W1.ownsRow w.heap.size e size (.slice (some ⟨g, 0, none⟩) m cap) m news := by
  obtain ⟨i, hi0, hz0, hz1, hz2⟩ := info_parts hi
  obtain ⟨v', W1, hr, hown, hgr⟩ := run_append_arg_grows (P := P) w t ty e i z size bytes ht hi0 hz0 hz1 hz2 hzs hsz b0 0 0 [] (by simp) (by simp) a m c news hl hnews (by omega) (by omega) (by simpa using hbytes)
  rw [Nat.zero_add, List.nil_append] at hown
  have hown0 := hown
  rcases hown.2 with ⟨_, h0⟩ | ⟨g, cap, cur, rfl, hb, hg, h1, h2, h3, h4⟩
  · omega
  · refine ⟨g, cap, W1, hr, hb, ?_, bel_grown hgr, fun j u hu => ?_, fun j => ?_, hown0⟩
    · rcases Nat.lt_or_ge g W1.heap.size with hlt | hge
      · exact hlt
      · rw [Array.getElem?_eq_none hge] at hg; cases hg
    · rw [cell_of_row W1 g j cur e (0, 0) hg]
      have hj : j < news.length := by
        rcases Nat.lt_or_ge j news.length with h | h
        · exact h
        · rw [List.getElem?_eq_none h] at hu; cases hu
      rw [← h4, List.getElem?_take_of_lt (by omega)] at hu
      simpa using hu
    · simp [World.frozen?, hg]

theorem app_none {P : Program} (t ty e : TypeId) (z : Value) (size bytes : Nat) (ht : P.underlying t = some (.slice e)) (hi : (P.info? e).map (fun i => (i.zero, i.size, i.bytes)) = some (some z, size, bytes)) (b0 : Addr) (a : Option Addr) (c : Nat) (w : World) :
    (Builtin.append_ #[t, t] ty #[.slice (some b0) 0 0, .slice a 0 c]).run P w = .ok (.slice (some b0) 0 0) w := by
  obtain ⟨i, hi0, hz0, hz1, hz2⟩ := info_parts hi
  cases a <;> simp [Builtin.append_, run_underlying ht, sizeOf, typeInfo, hi0, Builtin.lenOf, Builtin.firstCells, storeCells, loadCells, loadCellsFrom]

theorem app_strs (ty : TypeId) (g0 : Nat) (v : Value) (ls : List ByteArray) (W : World) (h : Strs W v ls) (hn : ls.length ≤ 1100000) (hg0 : g0 < W.heap.size) :
    ∃ g cap W1, (Builtin.append_ #[96, 96] ty #[.slice (some ⟨g0, 0, none⟩) 0 0, v]).run Try.prog W = .ok (.slice (some ⟨g, 0, none⟩) ls.length cap) W1 ∧ StrsAt W1 g 0 ls ∧ (g = g0 ∨ W.heap.size ≤ g) ∧ g < W1.heap.size ∧ Below W.heap.size W W1 := by
  obtain ⟨a, c, rfl, hc⟩ := h
  by_cases h0 : ls.length = 0
  · have e : ls = [] := List.length_eq_zero_iff.1 h0
    subst e
    exact ⟨g0, 0, W, app_none _ ty _ _ _ _ underStrs infoStr _ a c W, fun j hj => absurd hj (by simp), .inl rfl, hg0, Below.refl _ _⟩
  · obtain ⟨b, o, rfl, _⟩ := hc 0 (by omega)
    obtain ⟨g, cap, W1, hr, h1, h2, h3, h4, h5, _⟩ := app_new (P := Try.prog) 96 ty 9 (.string ByteArray.empty) 1 16 underStrs infoStr rfl (by omega) ⟨g0, 0, none⟩ ⟨b, o, none⟩ ls.length c (ls.map Value.string) W (by simp) (fun j u hu => by
      rw [List.getElem?_map] at hu
      cases e : ls[j]? with
      | none => rw [e] at hu; cases hu
      | some t =>
        rw [e] at hu
        obtain ⟨hj, ht⟩ := List.getElem?_eq_some_iff.1 e
        obtain ⟨b', o', hbo, hcell⟩ := hc j hj
        injection hbo with hbo
        injection hbo with e1 e2 _
        subst e1 e2
        have hadd : (⟨b, o, none⟩ : Addr).add j = ⟨b, o + j, none⟩ := by unfold Addr.add; split <;> simp_all
        rw [hadd, hcell, ht]
        simpa using hu) (by omega) (by unfold maxLen; omega) (by omega)
    exact ⟨g, cap, W1, hr, fun j hj => ⟨by rw [Nat.zero_add]; exact h4 j _ (by simp [hj]), by rw [Nat.zero_add]; exact h5 j⟩, .inr h1, h2, h3⟩

/-- The cells of a list of pending writes. -/
def pcells : List (Int × ByteArray) → List Value
  | [] => []
  | y :: l => .int .i64 y.1 :: .string y.2 :: pcells l
theorem length_pcells (l : List (Int × ByteArray)) : (pcells l).length = l.length * 2 := by
  induction l with
  | nil => rfl
  | cons y l ih => simp [pcells, ih]; omega
theorem pcells_at (l : List (Int × ByteArray)) (j : Nat) (h : j < l.length) : (pcells l)[j * 2]? = some (.int .i64 l[j].1) ∧ (pcells l)[j * 2 + 1]? = some (.string l[j].2) := by
  induction l generalizing j with
  | nil => simp at h
  | cons y l ih =>
    cases j with
    | zero => simp [pcells]
    | succ j =>
      have := ih j (by simpa using h)
      rw [show (j + 1) * 2 = j * 2 + 1 + 1 by omega]
      simpa [pcells] using this

/-- An 'append' whose run is known, at a step of a region that draws its order. -/
theorem step_app {P : Program} {w : World} {ops : Array Oper} {o : Oper} {a : Act} {K : Act → World → Prop} {Q : Exit → Act → World → Prop} {E : Prop} (hgd : o.guard = none) (s x : Operand) (t : TypeId)
    (ho : o.op = .call { callee := .builtin .append, args := #[s, x], argTypes := #[t, t] }) (v u r : Value) (w' : World) (hs : a.eval s = v) (hx : a.eval x = u)
    (hr : (Builtin.append_ #[t, t] o.type #[v, u]).run P w = .ok r w') (h : K (a.put o.dst r) w') :
    if Region.wanted o (yielded ops a.tmps) = true then Oper.wp P o a w K Q else E := by
  have hw : Region.wanted o (yielded ops a.tmps) = true := by simp [Region.wanted, hgd]
  rw [if_pos hw]
  unfold Oper.wp execOp
  simp only [ho, resolve, invoke, builtin, Sem.run_bind, Sem.run_pure, Result.andThen_ok, List.map_toArray, List.map_cons, List.map_nil, hs, hx, hr]
  exact h
end Go.Proofs.Ytfpgobkedfhakaa.Harn
