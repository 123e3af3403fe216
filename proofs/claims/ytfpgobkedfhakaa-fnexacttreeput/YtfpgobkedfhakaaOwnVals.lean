/- A list of values of one cell each that the call itself appends to; texts. -/
import Derived.Test.YtfpgobkedfhakaaGfLine
import Derived.Test.YtfpgobkedfhakaaAppFresh
namespace Go.Proofs.Ytfpgobkedfhakaa.Gf
open Go.RowKit Go.Proofs.Ytfpgobkedfhakaa.Mem Go.Proofs.Ytfpgobkedfhakaa.Harn

def OwnV (T : TypeId) (W : World) (base : Nat) (v : Value) (cs : List Value) : Prop := W.ownsRow base T 1 v cs.length cs
theorem OwnV.lt {T : TypeId} {W : World} {base : Nat} {v : Value} {cs : List Value} (h : OwnV T W base v cs) : ∀ g, v.ownBlock = some g → base ≤ g ∧ g < W.heap.size := World.ownsRow.lt h
theorem OwnV.same {T : TypeId} {W W' : World} {base B : Nat} {v : Value} {l : List Value} (h : OwnV T W base v l) (hb : ∀ g, v.ownBlock = some g → W'.heap[g]? = W.heap[g]?) (hB : B ≤ base) : OwnV T W' B v l := by
  obtain ⟨h1, h2⟩ := h
  refine ⟨h1, ?_⟩
  rcases h2 with ⟨rfl, h2⟩ | ⟨g, cap, cur, rfl, e2, e3, e4⟩
  · exact .inl ⟨rfl, h2⟩
  · exact .inr ⟨g, cap, cur, rfl, by omega, (hb g rfl).trans e3, e4⟩
theorem OwnV.below {T : TypeId} {W W' : World} {base B : Nat} {v : Value} {l : List Value} (h : OwnV T W base v l) (hb : Below W.heap.size W W') (hB : B ≤ base) : OwnV T W' B v l := h.same (fun g hg => hb.block g (h.lt g hg).2) hB
theorem ownV_empty (T : TypeId) (w : World) (base : Nat) (h : base ≤ w.heap.size) : OwnV T (w.alloc (.cells #[] T)) base (.slice (some ⟨w.heap.size, 0, none⟩) 0 0) [] :=
  w.ownsRow_made #[] 0 h (by unfold maxLen; omega) (by simp)
theorem OwnV.cells {T : TypeId} {W : World} {base : Nat} {v : Value} {cs : List Value} (h : OwnV T W base v cs) : ∃ a cap, v = .slice a cs.length cap ∧ cs.length ≤ cap ∧ ∀ j (_ : j < cs.length), ∃ g, a = some ⟨g, 0, none⟩ ∧ W.cell? ⟨g, j, none⟩ = cs[j]? ∧ W.frozen? ⟨g, j, none⟩ = false := by
  have h0 := h
  rcases h.2 with ⟨rfl, hn⟩ | ⟨g, cap, cur, rfl, _, _, e3, e4, _⟩
  · exact ⟨none, 0, by rw [hn], by omega, fun j hj => by omega⟩
  · refine ⟨_, cap, rfl, by omega, fun j hj => ⟨g, rfl, World.ownsRow.cellAt h0 j (by omega), World.ownsRow.frozenAt h0 _⟩⟩

theorem app_val {P : Program} (t ty T : TypeId) (z : Value) (bytes : Nat) (ht : P.underlying t = some (.slice T)) (hi : (P.info? T).map (fun i => (i.zero, i.size, i.bytes)) = some (some z, 1, bytes)) (hzs : z.cells.size = 1) (hby : bytes ≤ 64) (base b : Nat) (v : Value) (cs : List Value) (u : Value) (W : World) (h : OwnV T W base v cs) (hbase : base ≤ W.heap.size) (h0 : W.cell? ⟨b, 0, none⟩ = some u) (h1 : u.oneCell' = true) (hn : cs.length ≤ 1100000) :
    ∃ g' cap W1, (Builtin.append_ #[t, t] ty #[v, .slice (some ⟨b, 0, none⟩) 1 1]).run P W = .ok (.slice (some ⟨g', 0, none⟩) (cs.length + 1) cap) W1 ∧ OwnV T W1 base (.slice (some ⟨g', 0, none⟩) (cs.length + 1) cap) (cs ++ [u]) ∧ (v.ownBlock = some g' ∨ g' = W.heap.size) ∧ g' < W1.heap.size ∧ W.grownBy W1 v.ownBlock := by
  obtain ⟨i, hi0, hz0, hz1, hz2⟩ := info_parts hi
  obtain ⟨g', cap, W1, hr, hown, hgr, hat, hlt⟩ := run_append_lies (P := P) W t ty base T i z 1 bytes ht hi0 hz0 hz1 hz2 hzs (by omega) v cs.length cs h ⟨b, 0, none⟩ 1 1 [u] rfl (fun j x hx => by
    rw [addr_add0]
    rcases j with _ | j
    · simp at hx; rw [h0, hx]
    · simp at hx) (by simp [h1]) (by omega) (by unfold maxLen; omega) (by
      have : (cs.length + 1) * bytes ≤ 1100001 * 64 := Nat.mul_le_mul (by omega) hby
      omega) hbase W.heap.size rfl
  exact ⟨g', cap, W1, hr, by unfold OwnV; simpa using hown, hat, hlt, hgr⟩
theorem wp_val {P : Program} {w : World} {ops : Array Oper} {rest : List Oper} {o : Oper} {a : Act} {Q : Exit → Act → World → Prop} (hgd : o.guard = none) (s x : Operand) (t T : TypeId) (z : Value) (bytes : Nat)
    (ho : o.op = .call { callee := .builtin .append, args := #[s, x], argTypes := #[t, t] }) (ht : P.underlying t = some (.slice T)) (hi : (P.info? T).map (fun i => (i.zero, i.size, i.bytes)) = some (some z, 1, bytes)) (hzs : z.cells.size = 1) (hby : bytes ≤ 64) (base b : Nat) (v : Value) (cs : List Value) (y : Value) (hs : a.eval s = v) (hx : a.eval x = .slice (some ⟨b, 0, none⟩) 1 1)
    (h : OwnV T w base v cs) (hbase : base ≤ w.heap.size) (h0 : w.cell? ⟨b, 0, none⟩ = some y) (h1 : y.oneCell' = true) (hn : cs.length ≤ 1100000)
    (hK : ∀ g cap w', OwnV T w' base (.slice (some ⟨g, 0, none⟩) (cs.length + 1) cap) (cs ++ [y]) → Below base w w' → w.heap.size ≤ w'.heap.size → wpList P ops Q rest (a.put o.dst (.slice (some ⟨g, 0, none⟩) (cs.length + 1) cap)) w') : wpList P ops Q (o :: rest) a w := by
  obtain ⟨g', cap, w', hr, a1, _, _, a4⟩ := app_val t o.type T z bytes ht hi hzs hby base b v cs y w h hbase h0 h1 hn
  have hb := (Below.refl base w).grown a4 hbase (fun j hj => (World.ownsRow.lt h j hj).1)
  exact wp_app1 hgd s x _ ho _ _ _ w' hs hx hr (hK g' cap w' a1 hb hb.size)

/-- A list of texts that owns its row, or is nil. -/
def OwnS (W : World) (base : Nat) (v : Value) (ls : List ByteArray) : Prop := OwnV 9 W base v (ls.map Value.string)
theorem OwnS.strs {W : World} {base : Nat} {v : Value} {ls : List ByteArray} (h : OwnS W base v ls) : Strs W v ls := by
  obtain ⟨a, cap, rfl, _, hc⟩ := OwnV.cells h
  have hl : (ls.map Value.string).length = ls.length := by simp
  refine ⟨a, cap, by rw [hl], fun j hj => ?_⟩
  obtain ⟨g, rfl, c, _⟩ := hc j (by omega)
  exact ⟨g, 0, rfl, by rw [Nat.zero_add, c]; simp [hj]⟩
theorem wp_str {w : World} {ops : Array Oper} {rest : List Oper} {o : Oper} {a : Act} {Q : Exit → Act → World → Prop} (hgd : o.guard = none) (s x : Operand)
    (ho : o.op = .call { callee := .builtin .append, args := #[s, x], argTypes := #[96, 96] }) (base b : Nat) (v : Value) (ls : List ByteArray) (y : ByteArray) (hs : a.eval s = v) (hx : a.eval x = .slice (some ⟨b, 0, none⟩) 1 1)
    (h : OwnS w base v ls) (hbase : base ≤ w.heap.size) (h0 : w.cell? ⟨b, 0, none⟩ = some (.string y)) (hn : ls.length ≤ 1100000)
    (hK : ∀ g cap w', OwnS w' base (.slice (some ⟨g, 0, none⟩) (ls.length + 1) cap) (ls ++ [y]) → Below base w w' → w.heap.size ≤ w'.heap.size → wpList Try.prog ops Q rest (a.put o.dst (.slice (some ⟨g, 0, none⟩) (ls.length + 1) cap)) w') : wpList Try.prog ops Q (o :: rest) a w :=
  wp_val hgd s x _ _ _ 16 ho underStrs infoStr rfl (by omega) base b v (ls.map Value.string) (.string y) hs hx h hbase h0 rfl (by simpa using hn) (fun g cap w' h1 h2 h3 => by
    have := hK g cap w' (by unfold OwnS; rw [List.map_append]; simpa using h1) h2 h3
    simpa using this)
theorem OwnS.below {W W' : World} {base B : Nat} {v : Value} {l : List ByteArray} (h : OwnS W base v l) (hb : Below W.heap.size W W') (hB : B ≤ base) : OwnS W' B v l := OwnV.below h hb hB
theorem OwnS.alloc {W : World} {base : Nat} {v : Value} {l : List ByteArray} (h : OwnS W base v l) (o : Obj) : OwnS (W.alloc o) base v l := OwnS.below h ((Below.refl _ _).alloc (Nat.le_refl _) _) (Nat.le_refl _)
theorem OwnV.alloc {T : TypeId} {W : World} {base : Nat} {v : Value} {l : List Value} (h : OwnV T W base v l) (o : Obj) : OwnV T (W.alloc o) base v l := OwnV.below h ((Below.refl _ _).alloc (Nat.le_refl _) _) (Nat.le_refl _)
end Go.Proofs.Ytfpgobkedfhakaa.Gf
