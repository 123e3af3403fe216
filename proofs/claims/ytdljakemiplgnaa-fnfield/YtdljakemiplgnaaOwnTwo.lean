/- Two lists of the call's own that share no block, and appends to one of them. -/
import Derived.Test.YtdljakemiplgnaaOwnVals
namespace Go.Proofs.Ytdljakemiplgnaa.Gf
open Go.RowKit Go.Proofs.Ytdljakemiplgnaa.Mem Go.Proofs.Ytdljakemiplgnaa.Harn

structure Two (T U : TypeId) (W : World) (base : Nat) (v : Value) (cs : List Value) (u : Value) (ds : List Value) : Prop where
  l : OwnV T W base v cs
  r : OwnV U W base u ds
  far : ∀ g, v.ownBlock = some g → u.ownBlock ≠ some g
theorem Two.swap {T U : TypeId} {W : World} {base : Nat} {v u : Value} {cs ds : List Value} (h : Two T U W base v cs u ds) : Two U T W base u ds v cs := ⟨h.r, h.l, fun g h1 h2 => h.far g h2 h1⟩
theorem Two.below {T U : TypeId} {W W' : World} {base : Nat} {v u : Value} {cs ds : List Value} (h : Two T U W base v cs u ds) (hb : Below W.heap.size W W') : Two T U W' base v cs u ds := ⟨h.l.below hb (Nat.le_refl _), h.r.below hb (Nat.le_refl _), h.far⟩
theorem Two.alloc {T U : TypeId} {W : World} {base : Nat} {v u : Value} {cs ds : List Value} (h : Two T U W base v cs u ds) (o : Obj) : Two T U (W.alloc o) base v cs u ds := h.below ((Below.refl _ _).alloc (Nat.le_refl _) _)
/-- behind what turns one block below base alone -/
theorem Two.grown {T U : TypeId} {W W' : World} {base g : Nat} {v u : Value} {cs ds : List Value} (h : Two T U W base v cs u ds) (hg : W.grownBy W' (some g)) (hb : g < base) : Two T U W' base v cs u ds :=
  ⟨h.l.same (fun k hk => hg.block k (h.l.lt k hk).2 (fun e => by injection e with e; have := (h.l.lt k hk).1; omega)) (Nat.le_refl _), h.r.same (fun k hk => hg.block k (h.r.lt k hk).2 (fun e => by injection e with e; have := (h.r.lt k hk).1; omega)) (Nat.le_refl _), h.far⟩
theorem two_empty (T U : TypeId) (w : World) (base : Nat) (h : base ≤ w.heap.size) : Two T U ((w.alloc (.cells #[] T)).alloc (.cells #[] U)) base (.slice (some ⟨w.heap.size, 0, none⟩) 0 0) [] (.slice (some ⟨w.heap.size + 1, 0, none⟩) 0 0) [] := by
  refine ⟨OwnV.alloc (ownV_empty T w base h) _, ?_, fun g h1 h2 => ?_⟩
  · have := ownV_empty U (w.alloc (.cells #[] T)) base (by simp; omega)
    simpa using this
  · simp [Value.ownBlock] at h1 h2; omega

theorem wp_two {P : Program} {w : World} {ops : Array Oper} {rest : List Oper} {o : Oper} {a : Act} {Q : Exit → Act → World → Prop} (hgd : o.guard = none) (s x : Operand) (t T U : TypeId) (z : Value) (bytes : Nat)
    (ho : o.op = .call { callee := .builtin .append, args := #[s, x], argTypes := #[t, t] }) (ht : P.underlying t = some (.slice T)) (hi : (P.info? T).map (fun i => (i.zero, i.size, i.bytes)) = some (some z, 1, bytes)) (hzs : z.cells.size = 1) (hby : bytes ≤ 64) (base b : Nat) (v u : Value) (cs ds : List Value) (y : Value) (hs : a.eval s = v) (hx : a.eval x = .slice (some ⟨b, 0, none⟩) 1 1)
    (h : Two T U w base v cs u ds) (hbase : base ≤ w.heap.size) (h0 : w.cell? ⟨b, 0, none⟩ = some y) (h1 : y.oneCell' = true) (hn : cs.length ≤ 1100000)
    (hK : ∀ g cap w', Two T U w' base (.slice (some ⟨g, 0, none⟩) (cs.length + 1) cap) (cs ++ [y]) u ds → Below base w w' → w.heap.size ≤ w'.heap.size → wpList P ops Q rest (a.put o.dst (.slice (some ⟨g, 0, none⟩) (cs.length + 1) cap)) w') : wpList P ops Q (o :: rest) a w := by
  obtain ⟨g', cap, w', hr, a1, a2, a3, a4⟩ := app_val t o.type T z bytes ht hi hzs hby base b v cs y w h.l hbase h0 h1 hn
  have hb := (Below.refl base w).grown a4 hbase (fun j hj => (World.ownsRow.lt h.l j hj).1)
  refine wp_app1 hgd s x _ ho _ _ _ w' hs hx hr (hK g' cap w' ⟨a1, ?_, ?_⟩ hb hb.size)
  · exact h.r.same (fun k hk => a4.block k (h.r.lt k hk).2 (fun e => h.far k e.symm hk)) (Nat.le_refl _)
  · intro k hk hk2
    simp [Value.ownBlock] at hk
    subst hk
    rcases a2 with a2 | a2
    · exact h.far _ a2 hk2
    · have := (h.r.lt _ hk2).2; omega

/-- A list of whole numbers as cells. -/
def zcells (l : List Int) : List Value := l.map (Value.int .i64)
theorem OwnV.ints {W : World} {base : Nat} {v : Value} {l : List Int} (h : OwnV 2 W base v (zcells l)) : Ints W v l := by
  obtain ⟨a, cap, rfl, _, hc⟩ := OwnV.cells h
  have hl : (zcells l).length = l.length := by simp [zcells]
  refine ⟨a, cap, by rw [hl], fun j hj => ?_⟩
  obtain ⟨g, rfl, c, _⟩ := hc j (by omega)
  exact ⟨g, 0, rfl, by rw [Nat.zero_add, c]; simp [zcells, hj]⟩
theorem OwnV.caps {T : TypeId} {W : World} {base : Nat} {v : Value} {l : List Value} (h : OwnV T W base v l) : ∀ a n c, v = .slice a n c → n ≤ c := by
  obtain ⟨a, cap, rfl, hle, _⟩ := OwnV.cells h
  rintro a' n c hh
  injection hh with h1 h2 h3
  omega
end Go.Proofs.Ytdljakemiplgnaa.Gf
